/-
  The law of AnswerPut.
-/
import Derived.Test.YtnmmhicgodfpcaaDoorAnRow
import Derived.Test.YtnmmhicgodfpcaaDoorAnSpec
namespace Go.Proofs.YtnmmhicgodfpcaaDoor
open Go.RowKit

theorem AnAt.slices {w : World} {S : Nat → Prop} {a : An} {s0 s1 s2 : Value} (h : AnAt w S a s0 s1 s2) : ∃ a0 c0 a1 c1 a2 c2, s0 = .slice a0 a.outs.length c0 ∧ s1 = .slice a1 a.ends.length c1 ∧ s2 = .slice a2 a.boxes.length c2 := by
  obtain ⟨a0, c0, rfl⟩ := h.o.slice
  obtain ⟨a1, c1, rfl⟩ := h.e.slice
  obtain ⟨a2, c2, rfl⟩ := h.b.slice
  exact ⟨a0, c0, a1, c1, a2, c2, rfl, rfl, rfl⟩

set_option maxRecDepth 100000 in
set_option maxHeartbeats 4000000 in
theorem law_AnswerPut (a : An) (ha : a.Ok) (w : World) (s0 s1 s2 : Value) (hv : AnAt w (· < w.heap.size) a s0 s1 s2) (h0 : a.outs.length ≤ maxLen) (h1 : a.ends.length ≤ maxLen) (h2 : a.boxes.length ≤ maxLen) (hT : PowTab w) :
    Calls Tryd.prog 3 #[.agg #[s0, s1, s2]] w fun r w' => r = .returned (.bool true) ∧ Below w.heap.size w w' := by
  obtain ⟨W, hW⟩ : ∃ W, W = w.alloc (.cells #[s0, s1, s2] 25) := ⟨_, rfl⟩
  have hb : Below w.heap.size w W := by rw [hW]; exact (Below.refl _ _).alloc (Nat.le_refl _) _
  have hd : Below W.heap.size W (w.alloc (.cells #[s0, s1, s2] 25)) := by rw [← hW]; exact Below.refl _ _
  have KV : Hid (∀ w' : World, Below W.heap.size W w' → AnAt w' (· < w'.heap.size) a s0 s1 s2) := fun w' h => (hv.keep hb).keep h
  have KP : Hid (∀ w' : World, Below W.heap.size W w' → PowTab w') := fun w' h => (hT.keep hb).keep h
  have HC : Hid (∀ w' : World, Below W.heap.size W w' → w'.cell? ⟨w.heap.size, 0, none⟩ = some s0 ∧ w'.cell? ⟨w.heap.size, 1, none⟩ = some s1 ∧ w'.cell? ⟨w.heap.size, 2, none⟩ = some s2) := fun w' h => by
    have r0 : W.heap[w.heap.size]? = some (.cells #[s0, s1, s2] 25) := by rw [hW]; exact heap_alloc_new w _
    have hz : w.heap.size < W.heap.size := (Array.getElem?_eq_some_iff.1 r0).1
    have f0 := (h.block w.heap.size hz).trans r0
    exact ⟨by rw [cell_of_row _ _ _ _ _ _ f0]; rfl, by rw [cell_of_row _ _ _ _ _ _ f0]; rfl, by rw [cell_of_row _ _ _ _ _ _ f0]; rfl⟩
  have HZ := law_szAnswer a (w.alloc (.cells #[s0, s1, s2] 25)) _ s0 s1 s2 (KV.out _ hd) h0 h1 h2
  clear hW hv
  go_enter Tryd.func3, Tryd.ntmps3
  go_upto_region 5 with (go_at_call 4; refine HZ.mono ?_; rintro r w1 ⟨⟨n, rfl, hn⟩, hb1⟩; have hwee : Hid (0 ≤ n → a.outs.length + a.ends.length + a.boxes.length ≤ 1048576) := hn; clear hn; have hd1 := hd.trans (hb1.mono hd.size); (obtain ⟨x0, x1, x2⟩ := HC.out _ hd1))
  · go_ret
    exact ⟨rfl, hb.trans (hd1.mono hb.size)⟩
  have hl := hwee.out (by omega)
  clear hwee HZ
  have HTo' : ∀ w' : World, Below W.heap.size W w' → Calls Tryd.prog 6 #[.agg #[s0, s1, s2]] w' fun r w2 => ∃ a0 c0 a1 c1 a2 c2, r = .returned (.agg #[.slice a0 a.outs.length c0, .slice a1 a.ends.length c1, .slice a2 a.boxes.length c2]) ∧ AnAt w2 (· < w2.heap.size) a (.slice a0 a.outs.length c0) (.slice a1 a.ends.length c1) (.slice a2 a.boxes.length c2) ∧ Below w'.heap.size w' w2 := fun w' h => (law_toAnswer a hl w' s0 s1 s2 (KV.out w' h)).mono (by
    rintro r w2 ⟨t0, t1, t2, rfl, hA, hB⟩
    obtain ⟨a0, c0, a1, c1, a2, c2, rfl, rfl, rfl⟩ := hA.slices
    exact ⟨a0, c0, a1, c1, a2, c2, rfl, hA, hB⟩)
  go_upto_region 6 with (first
    | (go_at_call 6; refine (HTo' _ hd1).mono ?_; rintro r w2 ⟨p0, q0, p1, q1, p2, q2, rfl, hA2, hb2⟩; have hd2 := hd1.trans (hb2.mono hd1.size))
    | (go_at_call 5; refine (spec_AnswerPut a ha hl _ _ _ _ hA2).mono ?_; rintro r w3 ⟨rfl, hb3⟩; have hd3 := hd2.trans (hb3.mono hd2.size)))
  clear x0 x1 x2 hA2 hb2 hb3 hd2 hd1 hb1
  obtain ⟨x0, x1, x2⟩ := HC.out _ hd3
  go_upto_region 7 with (go_at_call 6; refine (HTo' _ hd3).mono ?_; rintro r w4 ⟨p0, q0, p1, q1, p2, q2, rfl, hA4, hb4⟩; have hd4 := hd3.trans (hb4.mono hd3.size))
  clear x0 x1 x2 hd3
  obtain ⟨V, hV⟩ : ∃ V, V = w4.alloc (.cells #[.slice p0 a.outs.length q0, .slice p1 a.ends.length q1, .slice p2 a.boxes.length q2] 30) := ⟨_, rfl⟩
  have hbV : Below w4.heap.size w4 V := by rw [hV]; exact (Below.refl _ _).alloc (Nat.le_refl _) _
  have hz4 : W.heap.size ≤ w4.heap.size := hd4.size
  have KX : Hid (∀ w' : World, Below V.heap.size V w' → AnAt w' (· < w'.heap.size) a (.slice p0 a.outs.length q0) (.slice p1 a.ends.length q1) (.slice p2 a.boxes.length q2)) := fun w' h => (hA4.keep hbV).keep h
  have HX : Hid (∀ w' : World, Below V.heap.size V w' → Below W.heap.size W w') := fun w' h => (hd4.trans (hbV.mono hz4)).trans (h.mono (Nat.le_trans hz4 hbV.size))
  have HY : Hid (∀ w' : World, Below V.heap.size V w' → w'.cell? ⟨w4.heap.size, 0, none⟩ = some (.slice p0 a.outs.length q0) ∧ w'.cell? ⟨w4.heap.size, 1, none⟩ = some (.slice p1 a.ends.length q1) ∧ w'.cell? ⟨w4.heap.size, 2, none⟩ = some (.slice p2 a.boxes.length q2)) := fun w' h => by
    have r0 : V.heap[w4.heap.size]? = some (.cells #[.slice p0 a.outs.length q0, .slice p1 a.ends.length q1, .slice p2 a.boxes.length q2] 30) := by rw [hV]; exact heap_alloc_new w4 _
    have hz : w4.heap.size < V.heap.size := (Array.getElem?_eq_some_iff.1 r0).1
    have f0 := (h.block w4.heap.size hz).trans r0
    exact ⟨by rw [cell_of_row _ _ _ _ _ _ f0]; rfl, by rw [cell_of_row _ _ _ _ _ _ f0]; rfl, by rw [cell_of_row _ _ _ _ _ _ f0]; rfl⟩
  have hv0 : Below V.heap.size V (w4.alloc (.cells #[.slice p0 a.outs.length q0, .slice p1 a.ends.length q1, .slice p2 a.boxes.length q2] 30)) := by rw [← hV]; exact Below.refl _ _
  clear hV hbV hA4
  go_upto_region 10 with (go_at_call 7; refine (impl_AnswerPut a ha hl _ _ _ _ (KX.out _ hv0) (KP.out _ (HX.out _ hv0))).mono ?_; rintro r w5 ⟨rfl, hb5⟩; have hv5 := hv0.trans (hb5.mono hv0.size))
  have hv6 : Below V.heap.size V w5.drew := hv5.drew
  have hk : ∀ w' : World, Below V.heap.size V w' → ((w'.cell? ⟨w4.heap.size, 0, none⟩ = some (.slice p0 a.outs.length q0) ∧ w'.cell? ⟨w4.heap.size, 1, none⟩ = some (.slice p1 a.ends.length q1) ∧ w'.cell? ⟨w4.heap.size, 2, none⟩ = some (.slice p2 a.boxes.length q2)) ∧ w'.cell? ⟨w.heap.size, 0, none⟩ = some s0 ∧ w'.cell? ⟨w.heap.size, 1, none⟩ = some s1 ∧ w'.cell? ⟨w.heap.size, 2, none⟩ = some s2) := fun w' h => ⟨HY.out _ h, HC.out _ (HX.out _ h)⟩
  have HK : Hid (∀ w' : World, Below V.heap.size V w' → ((w'.cell? ⟨w4.heap.size, 0, none⟩ = some (.slice p0 a.outs.length q0) ∧ w'.cell? ⟨w4.heap.size, 1, none⟩ = some (.slice p1 a.ends.length q1) ∧ w'.cell? ⟨w4.heap.size, 2, none⟩ = some (.slice p2 a.boxes.length q2)) ∧ w'.cell? ⟨w.heap.size, 0, none⟩ = some s0 ∧ w'.cell? ⟨w.heap.size, 1, none⟩ = some s1 ∧ w'.cell? ⟨w.heap.size, 2, none⟩ = some s2)) := hk
  clear hk
  go_region_held3 (fun w' => (w'.cell? ⟨w4.heap.size, 0, none⟩ = some (.slice p0 a.outs.length q0) ∧ w'.cell? ⟨w4.heap.size, 1, none⟩ = some (.slice p1 a.ends.length q1) ∧ w'.cell? ⟨w4.heap.size, 2, none⟩ = some (.slice p2 a.boxes.length q2)) ∧ w'.cell? ⟨w.heap.size, 0, none⟩ = some s0 ∧ w'.cell? ⟨w.heap.size, 1, none⟩ = some s1 ∧ w'.cell? ⟨w.heap.size, 2, none⟩ = some s2)
    (first | exact HK.out _ hv8 | exact HK.out _ hv7 | exact HK.out _ hv6)
    (first
      | (go_at_call 6; refine (HTo' _ (HX.out _ hv6)).mono ?_; rintro r w7 ⟨g0, j0, g1, j1, g2, j2, rfl, hA7, hb7⟩; have hv7 := hv6.trans (hb7.mono hv6.size))
      | (go_at_call 8; refine (law_eqAnswer a hl _ _ _ _ _ _ _ (KX.out _ hv7) hA7).mono ?_; rintro r w8 ⟨rfl, hb8⟩; have hv8 := hv7.trans (hb8.mono hv7.size)))
  go_wp2_with fail
  go_ret
  exact ⟨rfl, hb.trans ((HX.out _ hv8).mono hb.size)⟩
end Go.Proofs.YtnmmhicgodfpcaaDoor
