/-
  SameDeep: the specification's, whole.
-/
import Derived.Test.YthcifgpkiclkiaaDoorDpSpec
namespace Go.Proofs.YthcifgpkiclkiaaDoor
open Go.RowKit

/-- What SameDeep answers. -/
def deepOf (cs : List Ce) (d : Wd) : Int := if heapM cs = true ∧ wordP cs.length d.tag d.num then (deepM cs 14 d : Int) else -1
theorem deepOf_yes {cs : List Ce} {d : Wd} (h1 : heapM cs = true) (h2 : wordP cs.length d.tag d.num) : deepOf cs d = (deepM cs 14 d : Int) := if_pos ⟨h1, h2⟩
theorem deepOf_heap {cs : List Ce} {d : Wd} (h1 : heapM cs = false) : deepOf cs d = -1 := if_neg (fun h => by rw [h1] at h; exact absurd h.1 (by simp))
theorem deepOf_word {cs : List Ce} {d : Wd} (h1 : ¬ wordP cs.length d.tag d.num) : deepOf cs d = -1 := if_neg (fun h => h1 h.2)

set_option maxRecDepth 100000 in
set_option maxHeartbeats 1000000 in
theorem spec_SameDeep (cs : List Ce) (hn : cs.length ≤ 1048576) (d : Wd) (v : Value) (w : World) (hv : Cells w (· < w.heap.size) cs v) :
    Calls Tryd.prog 6 #[v, .agg #[.int .i64 d.tag, .int .i64 d.num]] w fun r w' => r = .returned (.int .i64 (deepOf cs d)) ∧ Below w.heap.size w w' := by
  obtain ⟨a, cap, rfl⟩ := hv.slice
  have hk := fun w' (hv' : Cells w' (· < w'.heap.size) cs (.slice a cs.length cap)) => ho_l7Ok cs hn _ w' hv'
  have hb1 : Below w.heap.size w (w.alloc (dpBox d)) := (Below.refl _ _).alloc (Nat.le_refl _) _
  have hB : (w.alloc (dpBox d)).heap[w.heap.size]? = some (dpBox d) := heap_alloc_new w _
  have hK : Hid (∀ w', Below (w.alloc (dpBox d)).heap.size (w.alloc (dpBox d)) w' → ((w'.cell? ⟨w.heap.size, 0, none⟩ = some (.int .i64 d.tag) ∧ w'.cell? ⟨w.heap.size, 1, none⟩ = some (.int .i64 d.num)) ∧ Cells w' (· < w'.heap.size) cs (.slice a cs.length cap) ∧ Below w.heap.size w w')) := fun w' h =>
    ⟨dp_two (dp_keep hB h), hv.keep (hc_next hb1 h) (hc_next hb1 h).size, hc_next hb1 h⟩
  clear hb1 hB
  cases hh : heapM cs
  · rw [hh] at hk
    rw [deepOf_heap hh]
    clear hh
    go_enter Tryd.func6, Tryd.ntmps6
    go_upto_region 1 with fail
    change Code.wp _ _ _ _ (w.alloc (dpBox d))
    generalize w.alloc (dpBox d) = W1 at *
    have hr1 : Below W1.heap.size W1 W1 := Below.refl _ _
    obtain ⟨⟨c0, c1⟩, _⟩ := hK.out W1 hr1
    go_wp2_with (go_at_call 13; refine (hk _ (hK.out _ hr1).2.1).mono ?_; rintro r w2 ⟨rfl, hb2⟩)
    go_ret
    exact ⟨rfl, (hK.out _ hb2).2.2⟩
  · rw [hh] at hk
    by_cases hw : wordP cs.length d.tag d.num
    · obtain ⟨h120, hrefs⟩ := heap_refs hh
      rw [deepOf_yes hh hw]
      have hR := fun w' hv' => spec_l18Deep cs hrefs 14 (by omega) d (ref_of_word hw) 14 rfl w' (.slice a cs.length cap) hv'
      have hW := fun w' => ho_word_yes cs.length (by omega) d.tag d.num w' hw
      clear hh hw hrefs h120 hv
      generalize deepM cs 14 d = x at *
      go_enter Tryd.func6, Tryd.ntmps6
      go_upto_region 1 with fail
      change Code.wp _ _ _ _ (w.alloc (dpBox d))
      generalize w.alloc (dpBox d) = W1 at *
      have hr1 : Below W1.heap.size W1 W1 := Below.refl _ _
      obtain ⟨⟨c0, c1⟩, _⟩ := hK.out W1 hr1
      go_wp2_with (first
        | (go_at_call 13; refine (hk _ (hK.out _ hr1).2.1).mono ?_; rintro r w2 ⟨rfl, hb2⟩; clear c0 c1; (obtain ⟨⟨c0, c1⟩, _⟩ := hK.out w2 hb2))
        | (go_at_call 14; refine (hW _).mono ?_; rintro r w3 ⟨rfl, hb3⟩; have hb13 := hc_next hb2 hb3; clear c0 c1; (obtain ⟨⟨c0, c1⟩, _⟩ := hK.out w3 hb13))
        | (go_at_call 15; refine (hR _ (hK.out _ hb13).2.1).mono ?_; rintro r w4 ⟨rfl, hb4⟩))
      go_ret
      exact ⟨rfl, (hK.out _ (hc_next hb13 hb4)).2.2⟩
    · rw [deepOf_word hw]
      have hW := fun w' => ho_word_no cs.length (by omega) d.tag d.num w' hw
      clear hh hw hv
      go_enter Tryd.func6, Tryd.ntmps6
      go_upto_region 1 with fail
      change Code.wp _ _ _ _ (w.alloc (dpBox d))
      generalize w.alloc (dpBox d) = W1 at *
      have hr1 : Below W1.heap.size W1 W1 := Below.refl _ _
      obtain ⟨⟨c0, c1⟩, _⟩ := hK.out W1 hr1
      go_wp2_with (first
        | (go_at_call 13; refine (hk _ (hK.out _ hr1).2.1).mono ?_; rintro r w2 ⟨rfl, hb2⟩; clear c0 c1; (obtain ⟨⟨c0, c1⟩, _⟩ := hK.out w2 hb2))
        | (go_at_call 14; refine (hW _).mono ?_; rintro r w3 ⟨rfl, hb3⟩))
      go_ret
      exact ⟨rfl, (hK.out _ (hc_next hb2 hb3)).2.2⟩
end Go.Proofs.YthcifgpkiclkiaaDoor
