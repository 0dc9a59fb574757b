/-
  freeSet: how often each name is free in some expressions.
-/
import Derived.Test.YtkkjpiikilhobaaGreatDoorNfWalk
namespace Go.Proofs.YtkkjpiikilhobaaGreatDoor
open Go.RowKit Go.Maps Go.WideMaps

theorem occAll_length (d : Int) (f : Int → List ByteArray) : ∀ (es : List Ex) (i m : Int), (∀ e ∈ es, ∀ l, sizeM e d ≤ 60 → ((occM e l).length : Int) ≤ sizeM e d) → 0 ≤ m → sizeAll es d m ≤ 60 → m + ((occAll es i f).length : Int) ≤ sizeAll es d m
  | [], i, m, _, _, _ => by rw [occAll, sizeAll]; simp
  | e :: es, i, m, h, h1, h2 => by
    rw [sizeAll] at h2 ⊢
    rw [occAll]
    split at h2
    · omega
    · rename_i hs
      rw [if_neg hs]
      have hb := (sizeM_bd e d).1
      have he := h e (by simp) (f i) (by omega)
      have := occAll_length d f es (i + 1) (m + sizeM e d) (fun x hx => h x (by simp [hx])) (by omega) h2
      simp; omega
theorem occM_length (e : Ex) : ∀ d l, sizeM e d ≤ 60 → ((occM e l).length : Int) ≤ sizeM e d := by
  induction e using Ex.ind with
  | h e ih =>
    intro d l hd
    rw [occM_eq]
    rw [sizeM_eq] at hd ⊢
    split at hd
    · omega
    · rename_i hs
      rw [if_neg hs]
      have := occAll_length (d + 1) (fun i => l ++ e.bindsAt i) e.kids 0 1 (fun x hx l => ih x hx (d + 1) l) (by omega) hd
      rw [List.length_append]
      split <;> simp <;> omega

/-- The free names of expressions, where they stand. -/
def occs (es : List Ex) : List ByteArray := es.flatMap fun e => occM e []
theorem occs_take (es : List Ex) (k : Nat) (h : k < es.length) : occs (es.take (k + 1)) = occs (es.take k) ++ occM es[k] [] := by
  rw [occs, List.take_succ_eq_append_getElem h, List.flatMap_append]; simp [occs]
theorem occs_length (es : List Ex) (h : ∀ e ∈ es, sizeM e 1 ≤ 60) : (occs es).length ≤ 60 * es.length := by
  induction es with
  | nil => simp [occs]
  | cons e es ih =>
    have h1 := occM_length e 1 [] (h e (by simp))
    have h2 := h e (by simp)
    have h3 := ih (fun x hx => h x (by simp [hx]))
    simp only [occs, List.flatMap_cons, List.length_append, List.length_cons] at h3 ⊢
    omega

theorem below_of_but {w w' : World} {Bm : Nat} (h : w.grownBy w' (some Bm)) (hB : Bm ≤ w.heap.size) : Below Bm w w' := ⟨h.os, h.tape, h.output, h.size, fun k hk => h.block k (by omega) (by simp; omega)⟩
/-- How freeSet ends. -/
def Counted (w w' : World) (os : List ByteArray) (r : Ending) : Prop := r = .returned (.map (some w.heap.size)) ∧ Holds w' w.heap.size os ∧ Below w.heap.size w w'

set_option maxHeartbeats 1000000 in
theorem impl_freeSet (es : List Ex) (v : Value) (w : World) (hn : es.length ≤ 1000) (hw : ∀ e ∈ es, e.Wee) (hf : ∀ e ∈ es, e.Fit) (hs : ∀ e ∈ es, sizeM e 1 ≤ 60) (hv : Lies w (· < w.heap.size) es v) :
    Calls Tryz.prog 20 #[v] w fun r w' => Counted w w' (occs es) r := by
  have hmm := @run_makeMap Tryz.prog
  have hmf : ∀ (fn : Fn) (first cap : Array Value) (w : World), (Instr.makeFunc fn first cap).run Tryz.prog w = .ok (.func fn first cap) w := fun _ _ _ _ => rfl
  obtain ⟨a, cap, rfl⟩ := hv.slice
  go_enter Tryz.func20, Tryz.ntmps20
  go_wp2_with fail
  go_loopw [9] (fun i wr => ∃ k : Nat, k ≤ es.length ∧ i = .int .i64 k ∧ Holds wr w.heap.size (occs (es.take k)) ∧ Below w.heap.size w wr) (fun i _ => es.length - (intOf i).toNat)
  case atStart =>
    refine ⟨0, by omega, rfl, ⟨?_, _, (World.ownsMap_made w _ _ _).alloc _, fun s _ => ?_, fun s => rfl⟩, below_al (below_al0 _ _)⟩
    · simpa using heap_alloc_new (w.alloc (.map #[] 0)) (.cells #[.map (some w.heap.size)] 44)
    · rfl
  case round =>
    obtain ⟨k, hk, rfl, hH, hB⟩ := hrel
    have hcell : wr.cell? ⟨w.heap.size + 1, 0, none⟩ = some (.map (some w.heap.size)) := by rw [cell_of_row _ _ _ _ _ _ hH.1]; rfl
    by_cases hlt : k < es.length
    · obtain ⟨b, off, cap', s1, hS, hsl, hr, hl⟩ := hv.at (List.getElem?_eq_getElem hlt)
      obtain ⟨rfl, rfl⟩ : a = some ⟨b, off, none⟩ ∧ cap = cap' := by simpa using hsl
      obtain ⟨c0, c1, c2, c3, c4⟩ := Ex.five (rangeAt_same (hB.block b hS) hr)
      obtain ⟨a2, cap2, rfl⟩ := hl.slice
      have HX : Hid (occs (es.take (k + 1)) = occs (es.take k) ++ occM es[k] []) := occs_take es k hlt
      have hm : es[k] ∈ es := List.getElem_mem hlt
      have hlk := fun o => hl.keep (hB.alloc hB.size o) (Nat.le_refl _)
      have hHk := fun o => hH.kept (below_al0 wr o)
      have h60 := occM_length es[k] 1 [] (hs _ hm)
      have hol := occs_length (es.take k) (fun e he => hs e (List.mem_of_mem_take he))
      have hol2 : (occs (es.take k)).length + (occM es[k] []).length ≤ 100000 := by
        have := hs _ hm; simp at hol; omega
      have hwk := hw _ hm
      have hfk := hf _ hm
      have hsk := hs _ hm
      have hnil : ∀ o, App (wr.alloc o) (w.heap.size + 1) [] (.slice none 0 0) := fun _ => Or.inl (World.ownsRow_nil _ _ _ _)
      clear hr hsl h60 hol hcell
      go_wp2_with (go_at_call 32; refine (impl_walkFree es[k] _ _ _ [] _ w.heap.size 1 hwk hfk (hlk _) (hnil _) (hHk _) hsk (by omega) (by simp) hol2).mono ?_; rintro r w3 ⟨rfl, hH3, hg3⟩; have hb3 := below_of_but hg3 (by have := hB.size; simp; omega))
      go_roundw
      case rel => exact ⟨k + 1, by omega, by go_num, by rw [HX.out]; exact hH3, (below_al hB).trans hb3⟩
      case measure => simp [intOf]; omega
    · have HX : Hid (occs (es.take k) = occs es) := by show _ = _; rw [List.take_of_length_le (by omega)]
      go_wp2_with fail
      go_ret
      exact ⟨rfl, by rw [← HX.out]; exact hH, hB⟩
end Go.Proofs.YtkkjpiikilhobaaGreatDoor
