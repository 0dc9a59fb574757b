/-
  The law FnExactNameLike: it answers true, whatever the two expressions.
-/
import Derived.Test.YtmjbfenjalmnlaaDoorNkName
namespace Go.Proofs.YtmjbfenjalmnlaaDoor
open Go.RowKit

theorem two_next {w wc wd : World} {o1 o2 : Obj} (h : Below (w.heap.size + 1 + 1) ((w.alloc o1).alloc o2) wc) (hb : Below wc.heap.size wc wd) : Below (w.heap.size + 1 + 1) ((w.alloc o1).alloc o2) wd :=
  h.trans (hb.mono (by have := h.size; simpa using this))
theorem two_alloc {w wc : World} {o1 o2 o3 : Obj} (h : Below (w.heap.size + 1 + 1) ((w.alloc o1).alloc o2) wc) : Below (w.heap.size + 1 + 1) ((w.alloc o1).alloc o2) (wc.alloc o3) := two_next h (below_al0 _ _)
theorem two_all {w wc : World} {o1 o2 : Obj} (h : Below (w.heap.size + 1 + 1) ((w.alloc o1).alloc o2) wc) : Below w.heap.size w wc := below_of_box (two_first h)
theorem two_lies {w wc : World} {o1 o2 : Obj} {es : List Ex} {v : Value} (hv : Lies w (· < w.heap.size) es v) (h : Below (w.heap.size + 1 + 1) ((w.alloc o1).alloc o2) wc) : Lies wc (· < wc.heap.size) es v :=
  hv.keep (two_all h) (two_all h).size
theorem two_start {w w2 : World} {o1 o2 : Obj} (h : Below ((w.alloc o1).alloc o2).heap.size ((w.alloc o1).alloc o2) w2) : Below (w.heap.size + 1 + 1) ((w.alloc o1).alloc o2) w2 := by simpa using h
theorem two_cells {w wc : World} {a b c d x a' b' c' d' x' : Value} {t t' : TypeId} (h : Below (w.heap.size + 1 + 1) ((w.alloc (.cells #[a, b, c, d, x] t)).alloc (.cells #[a', b', c', d', x'] t')) wc) :
    wc.cell? ⟨w.heap.size, 0, none⟩ = some a ∧ wc.cell? ⟨w.heap.size, 1, none⟩ = some b ∧ wc.cell? ⟨w.heap.size, 2, none⟩ = some c ∧ wc.cell? ⟨w.heap.size, 3, none⟩ = some d ∧ wc.cell? ⟨w.heap.size, 4, none⟩ = some x ∧
    wc.cell? ⟨w.heap.size + 1, 0, none⟩ = some a' ∧ wc.cell? ⟨w.heap.size + 1, 1, none⟩ = some b' ∧ wc.cell? ⟨w.heap.size + 1, 2, none⟩ = some c' ∧ wc.cell? ⟨w.heap.size + 1, 3, none⟩ = some d' ∧ wc.cell? ⟨w.heap.size + 1, 4, none⟩ = some x' := by
  obtain ⟨p0, p1, p2, p3, p4⟩ := box5 (two_first h)
  have q := box5 (two_second h)
  simp only [World.size_alloc] at q
  exact ⟨p0, p1, p2, p3, p4, q⟩

set_option maxHeartbeats 2000000 in
theorem law_NameLike (x y : Ex) (hfx : x.Fit) (hfy : y.Fit) (w : World) (s t : Value) (hs : Lies w (· < w.heap.size) x.kids s) (ht : Lies w (· < w.heap.size) y.kids t) (hT : Tab w) :
    Calls Tryd.prog 3 #[x.val s, y.val t] w fun r w' => r = .returned (.bool true) ∧ Below w.heap.size w w' := by
  have hs2 : ∀ o1 o2, Lies ((w.alloc o1).alloc o2) (· < ((w.alloc o1).alloc o2).heap.size) x.kids s := fun o1 o2 => hs.keep (below_two w o1 o2) (below_two w o1 o2).size
  go_enter Tryd.func3, Tryd.ntmps3
  go_wp2_with (first
    | (go_at_call_of 4 x.name; refine (sz x hfx _ _ _ (hs2 _ _) (by omega) (by omega)).mono ?_; rintro r w2 ⟨⟨n, rfl, hn, hw⟩, hb2⟩; have hwx : Hid (0 ≤ n → x.Wee) := hw; clear hw; have hB2 := two_start hb2; clear hb2; obtain ⟨p0, p1, p2, p3, p4, q0, q1, q2, q3, q4⟩ := two_cells hB2)
    | (go_at_call_of 4 y.name; refine (sz y hfy _ _ _ (two_lies ht hB2) (by omega) (by omega)).mono ?_; rintro r w3 ⟨⟨n2, rfl, hn2, hw⟩, hb3⟩; have hwy : Hid (0 ≤ n2 → y.Wee) := hw; clear hw; have hB3 := two_next hB2 hb3; clear hb3 p0 p1 p2 p3 p4 q0 q1 q2 q3 q4))
  · go_ret
    exact ⟨rfl, two_all hB2⟩
  · go_ret
    exact ⟨rfl, two_all hB3⟩
  · have hx := hwx.out (by omega)
    have hy := hwy.out (by omega)
    have HS8 : ∀ w', Below (w.heap.size + 1 + 1) ((w.alloc (.cells #[.int .i64 x.kind, .string x.name, .string x.tail, .int .i64 x.num, s] 24)).alloc (.cells #[.int .i64 y.kind, .string y.name, .string y.tail, .int .i64 y.num, t] 24)) w' → (w'.cell? ⟨w.heap.size, 0, none⟩ = some (.int .i64 x.kind) ∧ w'.cell? ⟨w.heap.size, 1, none⟩ = some (.string x.name) ∧ w'.cell? ⟨w.heap.size, 2, none⟩ = some (.string x.tail) ∧ w'.cell? ⟨w.heap.size, 3, none⟩ = some (.int .i64 x.num) ∧ w'.cell? ⟨w.heap.size, 4, none⟩ = some (s) ∧ w'.cell? ⟨w.heap.size + 1, 0, none⟩ = some (.int .i64 y.kind) ∧ w'.cell? ⟨w.heap.size + 1, 1, none⟩ = some (.string y.name) ∧ w'.cell? ⟨w.heap.size + 1, 2, none⟩ = some (.string y.tail) ∧ w'.cell? ⟨w.heap.size + 1, 3, none⟩ = some (.int .i64 y.num) ∧ w'.cell? ⟨w.heap.size + 1, 4, none⟩ = some (t)) := fun w' h => two_cells h
    have hBd := hB3.drew
    go_region_held3 (fun w' => w'.cell? ⟨w.heap.size, 0, none⟩ = some (.int .i64 x.kind) ∧ w'.cell? ⟨w.heap.size, 1, none⟩ = some (.string x.name) ∧ w'.cell? ⟨w.heap.size, 2, none⟩ = some (.string x.tail) ∧ w'.cell? ⟨w.heap.size, 3, none⟩ = some (.int .i64 x.num) ∧ w'.cell? ⟨w.heap.size, 4, none⟩ = some (s) ∧ w'.cell? ⟨w.heap.size + 1, 0, none⟩ = some (.int .i64 y.kind) ∧ w'.cell? ⟨w.heap.size + 1, 1, none⟩ = some (.string y.name) ∧ w'.cell? ⟨w.heap.size + 1, 2, none⟩ = some (.string y.tail) ∧ w'.cell? ⟨w.heap.size + 1, 3, none⟩ = some (.int .i64 y.num) ∧ w'.cell? ⟨w.heap.size + 1, 4, none⟩ = some (t))
      ((exact HS8 _ (by assumption)))
      (first
        | (go_at_call_of 6 x.name; refine (to x hx _ _ (two_lies hs hBd)).mono ?_; rintro r w4 ⟨s1, rfl, hl1, hb4⟩; have hB4 := two_next hBd hb4)
        | (go_at_call_of 6 y.name; refine (to y hy _ _ (two_lies ht hB4)).mono ?_; rintro r w5 ⟨s2, rfl, hl2, hb5⟩; have hB5 := two_next hB4 hb5)
        | (go_at_call 5; refine (spec_NameLike x y hfx hfy hx hy _ _ _ ((lies_lt hl1).keep hb5 hb5.size) (lies_lt hl2)).mono ?_; rintro r w6 ⟨rfl, hb6⟩; have hB6 := two_next hB5 hb6))
    clear HS8 hl1 hl2 hb4 hb5 hb6
    obtain ⟨p0, p1, p2, p3, p4, q0, q1, q2, q3, q4⟩ := two_cells hB6
    go_wp2_with (first
      | (go_at_call_of 6 x.name; refine (to x hx _ _ (two_lies hs hB6)).mono ?_; rintro r w7 ⟨s3, rfl, hl3, hb7⟩; obtain ⟨a3, cap3, rfl⟩ := hl3.slice; have hB7 := two_next hB6 hb7; clear hb7 p0 p1 p2 p3 p4 q0 q1 q2 q3 q4; have pq := fun o => two_cells (two_alloc (o3 := o) hB7))
      | (go_at_call_of 6 y.name; refine (to y hy _ _ (two_lies ht (two_alloc hB7))).mono ?_; rintro r w9 ⟨s4, rfl, hl4, hb9⟩; obtain ⟨a4, cap4, rfl⟩ := hl4.slice; have hB9 := two_next (two_alloc hB7) hb9; have hX9 := box_start hb9; clear hb9 pq; have pp := fun o => box5 (box_alloc (o2 := o) hX9))
      | (go_at_call 7; refine (impl_NameLike x y hfx hfy hx hy _ _ _ (lies_box (lies_lt hl3) (box_alloc hX9)) (lies_alloc (lies_lt hl4) _) (hT.below (two_all (two_alloc hB9)) hT.pos)).mono ?_; rintro r w11 ⟨rfl, hb11⟩; have hB11 := two_next (two_alloc hB9) hb11; have hX11 := below_box_trans (box_alloc hX9) hb11; have hY11 := box_start hb11; clear hb11 pp))
    have hl3' := lies_box (lies_lt hl3) hX11
    have hl4' := lies_box (lies_lt hl4) hY11
    have HS14 : ∀ w', Below w11.heap.size w11 w' → (w'.cell? ⟨w7.heap.size, 0, none⟩ = some (.int .i64 x.kind) ∧ w'.cell? ⟨w7.heap.size, 1, none⟩ = some (.string x.name) ∧ w'.cell? ⟨w7.heap.size, 2, none⟩ = some (.string x.tail) ∧ w'.cell? ⟨w7.heap.size, 3, none⟩ = some (.int .i64 x.num) ∧ w'.cell? ⟨w7.heap.size, 4, none⟩ = some (.slice a3 x.kids.length cap3) ∧ w'.cell? ⟨w.heap.size, 0, none⟩ = some (.int .i64 x.kind) ∧ w'.cell? ⟨w.heap.size, 1, none⟩ = some (.string x.name) ∧ w'.cell? ⟨w.heap.size, 2, none⟩ = some (.string x.tail) ∧ w'.cell? ⟨w.heap.size, 3, none⟩ = some (.int .i64 x.num) ∧ w'.cell? ⟨w.heap.size, 4, none⟩ = some (s)) := fun w' h => by
      obtain ⟨u0, u1, u2, u3, u4⟩ := box5 (below_box_trans hX11 h)
      obtain ⟨p0, p1, p2, p3, p4, _⟩ := two_cells (two_next hB11 h)
      exact ⟨u0, u1, u2, u3, u4, p0, p1, p2, p3, p4⟩
    have hd11 : Below w11.heap.size w11 w11.drew := (Below.refl _ _).drew
    go_region_held3 (fun w' => w'.cell? ⟨w7.heap.size, 0, none⟩ = some (.int .i64 x.kind) ∧ w'.cell? ⟨w7.heap.size, 1, none⟩ = some (.string x.name) ∧ w'.cell? ⟨w7.heap.size, 2, none⟩ = some (.string x.tail) ∧ w'.cell? ⟨w7.heap.size, 3, none⟩ = some (.int .i64 x.num) ∧ w'.cell? ⟨w7.heap.size, 4, none⟩ = some (.slice a3 x.kids.length cap3) ∧ w'.cell? ⟨w.heap.size, 0, none⟩ = some (.int .i64 x.kind) ∧ w'.cell? ⟨w.heap.size, 1, none⟩ = some (.string x.name) ∧ w'.cell? ⟨w.heap.size, 2, none⟩ = some (.string x.tail) ∧ w'.cell? ⟨w.heap.size, 3, none⟩ = some (.int .i64 x.num) ∧ w'.cell? ⟨w.heap.size, 4, none⟩ = some (s))
      ((exact HS14 _ (by assumption)))
      (first
        | (go_at_call 6; refine (to x hx _ _ (two_lies hs hB11.drew)).mono ?_; rintro r w12 ⟨s5, rfl, hl5, hb12⟩; have hc12 := below_next hd11 hb12)
        | (go_at_call 8; refine (eq x hx _ _ _ (hl3'.keep hc12 hc12.size) (lies_lt hl5)).mono ?_; rintro r w13 ⟨rfl, hb13⟩; have hc13 := below_next hc12 hb13))
    clear HS14 hl5 hb12 hb13
    go_wp2_with fail
    have HS16 : ∀ w', Below w13.heap.size w13 w' → (w'.cell? ⟨w9.heap.size, 0, none⟩ = some (.int .i64 y.kind) ∧ w'.cell? ⟨w9.heap.size, 1, none⟩ = some (.string y.name) ∧ w'.cell? ⟨w9.heap.size, 2, none⟩ = some (.string y.tail) ∧ w'.cell? ⟨w9.heap.size, 3, none⟩ = some (.int .i64 y.num) ∧ w'.cell? ⟨w9.heap.size, 4, none⟩ = some (.slice a4 y.kids.length cap4) ∧ w'.cell? ⟨w.heap.size + 1, 0, none⟩ = some (.int .i64 y.kind) ∧ w'.cell? ⟨w.heap.size + 1, 1, none⟩ = some (.string y.name) ∧ w'.cell? ⟨w.heap.size + 1, 2, none⟩ = some (.string y.tail) ∧ w'.cell? ⟨w.heap.size + 1, 3, none⟩ = some (.int .i64 y.num) ∧ w'.cell? ⟨w.heap.size + 1, 4, none⟩ = some (t)) := fun w' h => by
      have h' := below_next hc13 h
      obtain ⟨u0, u1, u2, u3, u4⟩ := box5 (below_box_trans hY11 h')
      obtain ⟨_, _, _, _, _, q⟩ := two_cells (two_next hB11 h')
      exact ⟨u0, u1, u2, u3, u4, q⟩
    have hd13 : Below w13.heap.size w13 w13.drew := (Below.refl _ _).drew
    have hB13 := two_next hB11 hc13
    have hl4'' := hl4'.keep hc13 hc13.size
    go_region_held3 (fun w' => w'.cell? ⟨w9.heap.size, 0, none⟩ = some (.int .i64 y.kind) ∧ w'.cell? ⟨w9.heap.size, 1, none⟩ = some (.string y.name) ∧ w'.cell? ⟨w9.heap.size, 2, none⟩ = some (.string y.tail) ∧ w'.cell? ⟨w9.heap.size, 3, none⟩ = some (.int .i64 y.num) ∧ w'.cell? ⟨w9.heap.size, 4, none⟩ = some (.slice a4 y.kids.length cap4) ∧ w'.cell? ⟨w.heap.size + 1, 0, none⟩ = some (.int .i64 y.kind) ∧ w'.cell? ⟨w.heap.size + 1, 1, none⟩ = some (.string y.name) ∧ w'.cell? ⟨w.heap.size + 1, 2, none⟩ = some (.string y.tail) ∧ w'.cell? ⟨w.heap.size + 1, 3, none⟩ = some (.int .i64 y.num) ∧ w'.cell? ⟨w.heap.size + 1, 4, none⟩ = some (t))
      ((exact HS16 _ (by assumption)))
      (first
        | (go_at_call 6; refine (to y hy _ _ (two_lies ht hB13.drew)).mono ?_; rintro r w14 ⟨s6, rfl, hl6, hb14⟩; have hc14 := below_next hd13 hb14)
        | (go_at_call 8; refine (eq y hy _ _ _ (hl4''.keep hc14 hc14.size) (lies_lt hl6)).mono ?_; rintro r w15 ⟨rfl, hb15⟩; have hc15 := below_next hc14 hb15))
    clear HS16
    go_wp2_with fail
    go_ret
    exact ⟨rfl, two_all (two_next hB13 hc15)⟩
end Go.Proofs.YtmjbfenjalmnlaaDoor
