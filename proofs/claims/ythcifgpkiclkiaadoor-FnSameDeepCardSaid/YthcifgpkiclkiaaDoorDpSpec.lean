/-
  How deep cells lead one to the other: the specification's SameDeep.
-/
import Derived.Test.YthcifgpkiclkiaaDoorWlRefs
import Derived.Test.YthcifgpkiclkiaaDoorHoSpec
import Derived.Test.YthcifgpkiclkiaaDoorWrNum
import Derived.Deep.Cut
namespace Go.Proofs.YthcifgpkiclkiaaDoor
open Go.RowKit

/-- How deep a word leads, so deep at most. -/
def deepM (cs : List Ce) : Nat → Wd → Nat
  | 0, _ => 0
  | m + 1, d => if d.tag = 4 then (match cs[d.num.toNat]? with | some c => max (deepM cs m c.a) (deepM cs m c.b) + 1 | none => 1) else 0
theorem deep_le (cs : List Ce) : ∀ (m : Nat) (d : Wd), deepM cs m d ≤ m
  | 0, _ => Nat.le_refl _
  | m + 1, d => by
    rw [deepM]
    split
    · split
      · rename_i c _
        have h1 := deep_le cs m c.a
        have h2 := deep_le cs m c.b
        omega
      · omega
    · omega
theorem deep_at {cs : List Ce} {m i : Nat} (hi : i < cs.length) : deepM cs (m + 1) ⟨4, i⟩ = max (deepM cs m cs[i].a) (deepM cs m cs[i].b) + 1 := by
  rw [deepM, if_pos rfl]
  simp [hi]
theorem deep_no {cs : List Ce} {d : Wd} (h : d.tag ≠ 4) : ∀ m, deepM cs m d = 0
  | 0 => rfl
  | m + 1 => by rw [deepM, if_neg h]
abbrev dpBox (d : Wd) : Obj := .cells #[.int .i64 d.tag, .int .i64 d.num] 25
theorem dp_two {w : World} {g : Nat} {d : Wd} (h : w.heap[g]? = some (dpBox d)) : w.cell? ⟨g, 0, none⟩ = some (.int .i64 d.tag) ∧ w.cell? ⟨g, 1, none⟩ = some (.int .i64 d.num) := ⟨cell_of_row _ _ 0 _ _ _ h, cell_of_row _ _ 1 _ _ _ h⟩
theorem dp_keep {w w' : World} {b : Nat} {d : Wd} (h : w.heap[b]? = some (dpBox d)) (hb : Below w.heap.size w w') : w'.heap[b]? = some (dpBox d) := (hb.block b (Array.getElem?_eq_some_iff.1 h).1).trans h

set_option maxRecDepth 100000 in
set_option maxHeartbeats 1000000 in
theorem spec_l18Deep (cs : List Ce) (hrefs : ∀ c ∈ cs, refOk cs.length c.a ∧ refOk cs.length c.b) : ∀ (m : Nat) (_ : m ≤ 1000) (d : Wd) (_ : refOk cs.length d) (k : Int) (_ : k = (m : Int)) (w : World) (v : Value) (_ : Cells w (· < w.heap.size) cs v),
    Calls Tryd.prog 15 #[v, .agg #[.int .i64 d.tag, .int .i64 d.num], .int .i64 k] w fun r w' => r = .returned (.int .i64 (deepM cs m d)) ∧ Below w.heap.size w w' := by
  intro m
  induction m with
  | zero =>
    intro _ d _ k hk w v hv
    obtain ⟨a, cap, rfl⟩ := hv.slice
    subst hk
    have e : deepM cs 0 d = 0 := rfl
    rw [e]
    have hb1 : Below w.heap.size w (w.alloc (dpBox d)) := (Below.refl _ _).alloc (Nat.le_refl _) _
    by_cases ht : d.tag = 4
    · have ht' : (d.tag != 4) = false := by simpa using ht
      clear ht hrefs
      go_enter Tryd.func15, Tryd.ntmps15
      go_wp2_with fail
      go_ret
      exact ⟨rfl, hb1⟩
    · have ht' : (d.tag != 4) = true := by simpa using ht
      clear ht hrefs
      go_enter Tryd.func15, Tryd.ntmps15
      go_wp2_with fail
      go_ret
      exact ⟨rfl, hb1⟩
  | succ m ih =>
    intro hm d hd k hk w v hv
    obtain ⟨a, cap, rfl⟩ := hv.slice
    have hb1 : Below w.heap.size w (w.alloc (dpBox d)) := (Below.refl _ _).alloc (Nat.le_refl _) _
    by_cases ht : d.tag = 4
    · obtain ⟨h0, h1⟩ := hd ht
      obtain ⟨t, u⟩ := d
      obtain rfl : t = 4 := ht
      obtain ⟨i, rfl⟩ : ∃ i : Nat, u = i := Int.eq_ofNat_of_zero_le h0
      have hil : i < cs.length := by simpa using h1
      obtain ⟨b, off, hS, rfl, hr⟩ := hv.at i hil
      obtain ⟨ra, rb⟩ := hrefs _ (List.getElem_mem hil)
      rw [deep_at hil]
      have la := deep_le cs m cs[i].a
      have lb := deep_le cs m cs[i].b
      have ia := fun w' hv' => ih (by omega) cs[i].a ra (k - 1) (by omega) w' (.slice (some ⟨b, off, none⟩) cs.length cap) hv'
      have ib := fun w' hv' => ih (by omega) cs[i].b rb (k - 1) (by omega) w' (.slice (some ⟨b, off, none⟩) cs.length cap) hv'
      generalize deepM cs m cs[i].a = x at *
      generalize deepM cs m cs[i].b = y at *
      have hW : (w.alloc (dpBox ⟨4, i⟩)).heap[w.heap.size]? = some (dpBox ⟨4, i⟩) := heap_alloc_new w _
      have hk0 : (k == 0) = false := by simp; omega
      have hkw : IntKind.i64.wrap (k - 1) = k - 1 := ck_wr _ (by omega) (by omega)
      have hii : (i : Int) < (cs.length : Int) := by omega
      have hK : Hid (∀ w', Below (w.alloc (dpBox ⟨4, i⟩)).heap.size (w.alloc (dpBox ⟨4, i⟩)) w' → ((w'.cell? ⟨w.heap.size, 0, none⟩ = some (.int .i64 4) ∧ w'.cell? ⟨w.heap.size, 1, none⟩ = some (.int .i64 i)) ∧ (w'.cell? ⟨b, off + i * 6 + 2, none⟩ = some (.int .i64 cs[i].a.tag) ∧ w'.cell? ⟨b, off + i * 6 + 3, none⟩ = some (.int .i64 cs[i].a.num) ∧ w'.cell? ⟨b, off + i * 6 + 4, none⟩ = some (.int .i64 cs[i].b.tag) ∧ w'.cell? ⟨b, off + i * 6 + 5, none⟩ = some (.int .i64 cs[i].b.num)) ∧ Cells w' (· < w'.heap.size) cs (.slice (some ⟨b, off, none⟩) cs.length cap) ∧ Below w.heap.size w w')) := fun w' h => by
        have h2 := hc_next hb1 h
        obtain ⟨_, _, q2, q3, q4, q5⟩ := Ce.six (rw_same (h2.block b hS) hr)
        exact ⟨dp_two (dp_keep hW h), ⟨q2, q3, q4, q5⟩, hv.keep h2 h2.size, h2⟩
      clear hW hr hb1 ra rb hrefs ih h0 h1 hd hk hv hS
      go_enter Tryd.func15, Tryd.ntmps15
      go_upto_region 1 with fail
      change Code.wp _ _ _ _ (w.alloc (dpBox ⟨4, i⟩))
      generalize w.alloc (dpBox ⟨4, i⟩) = W1 at *
      have hr1 : Below W1.heap.size W1 W1 := Below.refl _ _
      obtain ⟨⟨c0, c1⟩, ⟨q2, q3, q4, q5⟩, _⟩ := hK.out W1 hr1
      go_upto_region 4 with (go_at_call 15; refine (ia _ (hK.out _ hr1).2.2.1).mono ?_; rintro e w2 ⟨rfl, hb2⟩; clear c0 c1 q2 q3 q4 q5; (obtain ⟨⟨c0, c1⟩, ⟨q2, q3, q4, q5⟩, _⟩ := hK.out w2 hb2))
      by_cases hxy : x < y
      · have e : Hid (max x y = y) := by show _ = _; omega
        have hxy' : (x : Int) < (y : Int) := by omega
        have hw : IntKind.i64.wrap ((y : Int) + 1) = (y : Int) + 1 := ck_wr _ (by omega) (by omega)
        clear hxy
        go_wp2_with (go_at_call 15; refine (ib _ (hK.out _ hb2).2.2.1).mono ?_; rintro e w3 ⟨rfl, hb3⟩)
        go_ret
        exact ⟨by rw [e.out]; simp, (hK.out _ (hc_next hb2 hb3)).2.2.2⟩
      · have e : Hid (max x y = x) := by show _ = _; omega
        have hxy' : ¬ (x : Int) < (y : Int) := by omega
        have hw : IntKind.i64.wrap ((x : Int) + 1) = (x : Int) + 1 := ck_wr _ (by omega) (by omega)
        clear hxy
        go_wp2_with (go_at_call 15; refine (ib _ (hK.out _ hb2).2.2.1).mono ?_; rintro e w3 ⟨rfl, hb3⟩)
        go_ret
        exact ⟨by rw [e.out]; simp, (hK.out _ (hc_next hb2 hb3)).2.2.2⟩
    · have ht' : (d.tag != 4) = true := by simpa using ht
      rw [deep_no ht]
      clear ht hrefs ih hd hk
      go_enter Tryd.func15, Tryd.ntmps15
      go_wp2_with fail
      go_ret
      exact ⟨rfl, hb1⟩
end Go.Proofs.YthcifgpkiclkiaaDoor
