/-
  The law of WirePut.
-/
import Derived.Test.YthmpgeppicbhlaaDoorCeRow
import Derived.Test.YthmpgeppicbhlaaDoorWiSpecC
namespace Go.Proofs.YthmpgeppicbhlaaDoor
open Go.RowKit

theorem wi_lt {w : World} {B : Nat} {cs : List Ce} {v : Value} (h : Cells w (fun b => B ≤ b ∧ b < w.heap.size) cs v) : Cells w (· < w.heap.size) cs v := h.same fun _ hb => ⟨rfl, hb.2⟩

set_option maxRecDepth 100000 in
set_option maxHeartbeats 4000000 in
theorem law_WirePut (cs : List Ce) (hlen : cs.length ≤ maxLen) (d : Wd) (w : World) (v : Value) (hv : Cells w (· < w.heap.size) cs v) (hT : PowTab w) (hC : CTab w) :
    Calls Tryd.prog 3 #[v, .agg #[.int .i64 d.tag, .int .i64 d.num]] w fun r w' => r = .returned (.bool true) ∧ Below w.heap.size w w' := by
  obtain ⟨a, cap, rfl⟩ := hv.slice
  obtain ⟨W, hW⟩ : ∃ W, W = w.alloc (.cells #[.int .i64 d.tag, .int .i64 d.num] 24) := ⟨_, rfl⟩
  have hb : Below w.heap.size w W := by rw [hW]; exact (Below.refl _ _).alloc (Nat.le_refl _) _
  have hd0 : Below W.heap.size W (w.alloc (.cells #[.int .i64 d.tag, .int .i64 d.num] 24)) := by rw [← hW]; exact Below.refl _ _
  have hd1 : Below W.heap.size W (w.alloc (.cells #[.int .i64 d.tag, .int .i64 d.num] 24)).drew := hd0.drew
  have KV : Hid (∀ w' : World, Below W.heap.size W w' → Cells w' (· < w'.heap.size) cs (.slice a cs.length cap)) := fun w' h => (hv.keep hb hb.size).keep h h.size
  have KP : Hid (∀ w' : World, Below W.heap.size W w' → PowTab w') := fun w' h => (hT.keep hb).keep h
  have KT : Hid (∀ w' : World, Below W.heap.size W w' → CTab w') := fun w' h => (hC.below hb hC.pos).below h (Nat.lt_of_lt_of_le hC.pos hb.size)
  have HS : Hid (∀ w' : World, Below W.heap.size W w' → w'.cell? ⟨w.heap.size, 0, none⟩ = some (.int .i64 d.tag) ∧ w'.cell? ⟨w.heap.size, 1, none⟩ = some (.int .i64 d.num)) := fun w' h => by
    have r0 : W.heap[w.heap.size]? = some (.cells #[.int .i64 d.tag, .int .i64 d.num] 24) := by rw [hW]; exact heap_alloc_new w _
    have f0 := (h.block w.heap.size (Array.getElem?_eq_some_iff.1 r0).1).trans r0
    exact ⟨by rw [cell_of_row _ _ _ _ _ _ f0]; rfl, by rw [cell_of_row _ _ _ _ _ _ f0]; rfl⟩
  clear hW hT hC hv
  go_enter Tryd.func3, Tryd.ntmps3
  go_upto_region 5 with (go_at_call 4; refine (law_szCellS cs hlen _ a cap).mono ?_; rintro r w2 ⟨⟨n, rfl, hw⟩, hww⟩; subst hww; have hwee : Hid (0 ≤ n → cs.length ≤ 1048576) := hw; clear hw)
  · go_ret
    exact ⟨rfl, hb.trans (hd0.mono hb.size)⟩
  have hl := hwee.out (by omega)
  clear hwee
  have HTC := fun w' h => law_toCellS cs hl _ _ (KV.out w' h)
  have HTW := fun w' => law_toWord d.tag d.num w'
  go_region_held3 (fun w' => w'.cell? ⟨w.heap.size, 0, none⟩ = some (.int .i64 d.tag) ∧ w'.cell? ⟨w.heap.size, 1, none⟩ = some (.int .i64 d.num))
    (first | exact HS.out _ hc3 | exact HS.out _ hc2 | exact HS.out _ hc1 | exact HS.out _ hd1)
    (first
      | (go_at_call 6; refine (HTC _ hd1).mono ?_; rintro e w3 ⟨v3, rfl, h3, hb3⟩; (obtain ⟨a3, cap3, rfl⟩ := h3.slice); have hc1 := hd1.trans (hb3.mono hd1.size))
      | (go_at_call 7; refine (HTW _).mono ?_; rintro e w4 ⟨rfl, hb4⟩; have hc2 := hc1.trans (hb4.mono hc1.size); have h4 := (wi_lt h3).keep hb4 hb4.size)
      | (go_at_call 5; refine (spec_WirePut cs hl d _ _ h4).mono ?_; rintro e w5 ⟨rfl, hb5⟩; have hc3 := hc2.trans (hb5.mono hc2.size)))
  clear hb3 hb4 hb5 h3 h4 hc1 hc2 hd0 hd1
  obtain ⟨p0, p1⟩ := HS.out _ hc3
  go_upto_region 8 with (first
    | (go_at_call 6; refine (HTC _ hc3).mono ?_; rintro e w6 ⟨v6, rfl, h6, hb6⟩; (obtain ⟨a6, cap6, rfl⟩ := h6.slice); have hc6 := hc3.trans (hb6.mono hc3.size); clear p0 p1; (obtain ⟨p0, p1⟩ := HS.out _ hc6))
    | (go_at_call 7; refine (HTW _).mono ?_; rintro e w7 ⟨rfl, hb7⟩; have hc7 := hc6.trans (hb7.mono hc6.size); have h7 := (wi_lt h6).keep hb7 hb7.size)
    | (go_at_call 8; refine (impl_WirePut cs hl d _ _ h7 (KP.out _ hc7) (KT.out _ hc7)).mono ?_; rintro e w8 ⟨rfl, hb8⟩; have hc8 := hc7.trans (hb8.mono hc7.size); have h8 := h7.keep hb8 hb8.size))
  clear hb6 hb7 hb8 h6 h7 hc6 hc7 p0 p1
  go_wp2_with (first
    | (go_at_call 6; refine (HTC _ hc8).mono ?_; rintro e w9 ⟨v9, rfl, h9, hb9⟩; have hc9 := hc8.trans (hb9.mono hc8.size))
    | (go_at_call 9; refine (law_eqCellS cs hl _ _ _ (h8.keep hb9 hb9.size) (wi_lt h9)).mono ?_; rintro e w10 ⟨rfl, hb10⟩; have hc10 := hc9.trans (hb10.mono hc9.size)))
  go_ret
  exact ⟨rfl, hb.trans (hc10.mono hb.size)⟩
end Go.Proofs.YthmpgeppicbhlaaDoor
