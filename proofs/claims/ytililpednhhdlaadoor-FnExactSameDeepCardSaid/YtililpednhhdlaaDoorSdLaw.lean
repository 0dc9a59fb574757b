/-
  The law of SameDeep.
-/
import Derived.Test.YtililpednhhdlaaDoorCeRow
import Derived.Test.YtililpednhhdlaaDoorSdImpl
import Derived.Deep.RegionHeld3
import Derived.Deep.Cut
namespace Go.Proofs.YtililpednhhdlaaDoor
open Go.RowKit

theorem ht_next {w w2 w3 : World} (h1 : Below w.heap.size w w2) (h2 : Below w2.heap.size w2 w3) : Below w.heap.size w w3 := h1.trans (h2.mono h1.size)
theorem ht_lt {w : World} {B : Nat} {cs : List Ce} {v : Value} (h : Cells w (fun b => B ≤ b ∧ b < w.heap.size) cs v) : Cells w (· < w.heap.size) cs v := h.same fun _ hb => ⟨rfl, hb.2⟩

/-- A box of a word stands at the end of w, and w' came of that. -/
def BoxW (w w' : World) (T : TypeId) (t u : Int) : Prop := Below (w.heap.size + 1) (w.alloc (.cells #[.int .i64 t, .int .i64 u] T)) w'
section
variable {w w' w2 : World} {T : TypeId} {t u : Int}
theorem BoxW.start (h : Below (w.alloc (.cells #[.int .i64 t, .int .i64 u] T)).heap.size (w.alloc (.cells #[.int .i64 t, .int .i64 u] T)) w') : BoxW w w' T t u := by
  unfold BoxW; simpa using h
theorem BoxW.size (h : BoxW w w' T t u) : w.heap.size + 1 ≤ w'.heap.size := by
  have := Below.size h; simpa using this
theorem BoxW.next (h : BoxW w w' T t u) (hb : Below w'.heap.size w' w2) : BoxW w w2 T t u := Below.trans h (hb.mono h.size)
theorem BoxW.below (h : BoxW w w' T t u) : Below w.heap.size w w' := ((Below.refl _ _).alloc (Nat.le_refl _) _).trans (Below.mono h (Nat.le_succ _))
theorem BoxW.two (h : BoxW w w' T t u) : w'.cell? ⟨w.heap.size, 0, none⟩ = some (.int .i64 t) ∧ w'.cell? ⟨w.heap.size, 1, none⟩ = some (.int .i64 u) := by
  have hc : ∀ j, w'.cell? ⟨w.heap.size, j, none⟩ = (w.alloc (.cells #[.int .i64 t, .int .i64 u] T)).cell? ⟨w.heap.size, j, none⟩ := fun j => Below.cell h (p := ⟨w.heap.size, j, none⟩) (by dsimp only; omega)
  simp only [hc]
  refine ⟨?_, ?_⟩ <;> simp [go_sem]
theorem BoxW.row {cs : List Ce} {v : Value} (h : BoxW w w' T t u) (hv : Cells w (· < w.heap.size) cs v) : Cells w' (· < w'.heap.size) cs v := RowOf.keep hv h.below h.below.size
end

set_option maxHeartbeats 2000000 in
theorem law_SameDeep (cs : List Ce) (hlen : cs.length ≤ maxLen) (t u : Int) (w : World) (v : Value) (hv : Cells w (· < w.heap.size) cs v) (hT : BitTab w) :
    Calls Tryd.prog 3 #[v, .agg #[.int .i64 t, .int .i64 u]] w fun r w' => r = .returned (.bool true) ∧ Below w.heap.size w w' := by
  obtain ⟨a, cap, rfl⟩ := hv.slice
  have hd0 : BoxW w (w.alloc (.cells #[.int .i64 t, .int .i64 u] 24)) 24 t u := BoxW.start (Below.refl _ _)
  have hd1 : BoxW w (w.alloc (.cells #[.int .i64 t, .int .i64 u] 24)).drew 24 t u := BoxW.start ((Below.refl _ _).drew)
  have HS : ∀ w', BoxW w w' 24 t u → w'.cell? ⟨w.heap.size, 0, none⟩ = some (.int .i64 t) ∧ w'.cell? ⟨w.heap.size, 1, none⟩ = some (.int .i64 u) := fun w' h => h.two
  go_enter Tryd.func3, Tryd.ntmps3
  go_upto_region 5 with (go_at_call 4; refine (law_szCellS cs hlen _ a cap).mono ?_; rintro r w2 ⟨⟨n, rfl, hw⟩, hww⟩; subst hww; have hwee : Hid (0 ≤ n → cs.length ≤ 1048576) := hw; clear hw)
  · go_ret
    exact ⟨rfl, hd0.below⟩
  have hl := hwee.out (by omega)
  clear hwee
  have HS2 := fun v' w' hv' => spec_SameDeep cs hl ⟨t, u⟩ v' w' hv'
  have HI2 := fun v' w' hv' hT' => impl_SameDeep cs hl ⟨t, u⟩ v' w' hv' hT'
  generalize deepOf cs ⟨t, u⟩ = x at *
  go_region_held3 (fun w' => w'.cell? ⟨w.heap.size, 0, none⟩ = some (.int .i64 t) ∧ w'.cell? ⟨w.heap.size, 1, none⟩ = some (.int .i64 u))
    (first | exact HS _ hc3 | exact HS _ hc2 | exact HS _ hc1 | exact HS _ hd1)
    (first
      | (go_at_call 6; refine (law_toCellS cs hl _ _ (hd1.row hv)).mono ?_; rintro e w3 ⟨v3, rfl, h3, hb3⟩; obtain ⟨a3, cap3, rfl⟩ := h3.slice; have hc1 := hd1.next hb3)
      | (go_at_call 7; refine (law_toWord t u _).mono ?_; rintro e w4 ⟨rfl, hb4⟩; have hc2 := hc1.next hb4; have h4 := (ht_lt h3).keep hb4 hb4.size)
      | (go_at_call 5; refine (HS2 _ _ h4).mono ?_; rintro e w5 ⟨rfl, hb5⟩; have hc3 := hc2.next hb5))
  clear hb3 hb4 hb5 h3 h4 hc1 hc2
  obtain ⟨p0, p1⟩ := hc3.two
  go_upto_region 8 with (first
    | (go_at_call 6; refine (law_toCellS cs hl _ _ (hc3.row hv)).mono ?_; rintro e w6 ⟨v6, rfl, h6, hb6⟩; obtain ⟨a6, cap6, rfl⟩ := h6.slice; have hc6 := hc3.next hb6; clear p0 p1; obtain ⟨p0, p1⟩ := hc6.two)
    | (go_at_call 7; refine (law_toWord t u _).mono ?_; rintro e w7 ⟨rfl, hb7⟩; have hc7 := hc6.next hb7; have h7 := (ht_lt h6).keep hb7 hb7.size)
    | (go_at_call 8; refine (HI2 _ _ h7 (hT.keep hc7.below)).mono ?_; rintro e w8 ⟨rfl, hb8⟩; have hc8 := hc7.next hb8; have h8 := h7.keep hb8 hb8.size))
  clear hb6 hb7 hb8 h6 h7 hc6 hc7 p0 p1
  go_wp2_with (first
    | (go_at_call 6; refine (law_toCellS cs hl _ _ (hc8.row hv)).mono ?_; rintro e w9 ⟨v9, rfl, h9, hb9⟩; have hc9 := hc8.next hb9)
    | (go_at_call 9; refine (law_eqCellS cs hl _ _ _ (h8.keep hb9 hb9.size) (ht_lt h9)).mono ?_; rintro e w10 ⟨rfl, hb10⟩; have hc10 := hc9.next hb10))
  go_ret
  exact ⟨rfl, hc10.below⟩
end Go.Proofs.YtililpednhhdlaaDoor
