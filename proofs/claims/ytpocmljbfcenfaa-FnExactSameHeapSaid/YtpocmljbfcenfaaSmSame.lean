/-
  Cells that say the same: the specification's l18Same.
-/
import Derived.Test.YtpocmljbfcenfaaSmAdd
import Derived.Test.YtpocmljbfcenfaaWlRefs
namespace Go.Proofs.Ytpocmljbfcenfaa
open Go.RowKit

abbrev ceBx (c : Ce) : Obj := .cells #[.int .i64 c.kind, .int .i64 c.num, .int .i64 c.a.tag, .int .i64 c.a.num, .int .i64 c.b.tag, .int .i64 c.b.num] 36
theorem ce_box {w : World} {g : Nat} {c : Ce} (h : w.heap[g]? = some (ceBx c)) : (w.cell? ⟨g, 0, none⟩ = some (.int .i64 c.kind) ∧ w.cell? ⟨g, 1, none⟩ = some (.int .i64 c.num)) ∧ (w.cell? ⟨g, 2, none⟩ = some (.int .i64 c.a.tag) ∧ w.cell? ⟨g, 3, none⟩ = some (.int .i64 c.a.num)) ∧ (w.cell? ⟨g, 4, none⟩ = some (.int .i64 c.b.tag) ∧ w.cell? ⟨g, 5, none⟩ = some (.int .i64 c.b.num)) :=
  ⟨⟨cell_of_row _ _ 0 _ _ _ h, cell_of_row _ _ 1 _ _ _ h⟩, ⟨cell_of_row _ _ 2 _ _ _ h, cell_of_row _ _ 3 _ _ _ h⟩, ⟨cell_of_row _ _ 4 _ _ _ h, cell_of_row _ _ 5 _ _ _ h⟩⟩
theorem bt_sm (w : World) (o : Obj) : Below w.heap.size w (w.alloc o) := (Below.refl _ _).alloc (Nat.le_refl _) o
theorem sm_row (w : World) (a b : Int) : (w.alloc (.cells #[.int .i64 a, .int .i64 b] 54)).ownsRow w.heap.size 54 2 (.slice (some ⟨w.heap.size, 0, none⟩) 1 1) 1 [.int .i64 a, .int .i64 b] :=
  ⟨rfl, Or.inr ⟨w.heap.size, 1, #[.int .i64 a, .int .i64 b], rfl, Nat.le_refl _, heap_alloc_new _ _, Nat.le_refl _, by unfold maxLen; omega, rfl, rfl⟩⟩
theorem ww_no {x y : List Ce} {v u : Wd} (ht : v.tag ≠ 4) : SameW x y v u ↔ v.tag = u.tag ∧ v.num = u.num := by
  constructor
  · rintro ⟨R, _, h1, _, h3⟩
    exact ⟨h1, h3 ht⟩
  · rintro ⟨h1, h2⟩
    exact ⟨fun _ _ => False, fun _ _ h => h.elim, h1, fun e => absurd e ht, fun _ => h2⟩
theorem ww_yes {x y : List Ce} {v u : Wd} (h : SameW x y v u) : v.tag = u.tag := by
  obtain ⟨R, _, h1, _⟩ := h
  exact h1

/-- How l18Same ends. -/
def SameR (P : Prop) (w w' : World) (r : Ending) : Prop := ∃ b : Bool, r = .returned (.bool b) ∧ (b = true ↔ P) ∧ Below w.heap.size w w'
theorem post_true {P : Prop} {w w' : World} {r : Ending} (h : r = .returned (.bool true)) (hp : P) (hb : Below w.heap.size w w') : SameR P w w' r := ⟨true, h, ⟨fun _ => hp, fun _ => rfl⟩, hb⟩
theorem post_false {P : Prop} {w w' : World} {r : Ending} (h : r = .returned (.bool false)) (hp : ¬ P) (hb : Below w.heap.size w w') : SameR P w w' r := ⟨false, h, ⟨fun e => (by cases e), fun e => absurd e hp⟩, hb⟩

set_option maxRecDepth 100000 in
set_option maxHeartbeats 4000000 in
theorem spec_l18Same (x y : List Ce) (hx : ∀ c ∈ x, refOk x.length c.a ∧ refOk x.length c.b) (hy : ∀ c ∈ y, refOk y.length c.a ∧ refOk y.length c.b) (hxl : x.length ≤ 120) (hyl : y.length ≤ 120) (d u : Wd) (hd : refOk x.length d) (hu : refOk y.length u) (w : World) (vx vy : Value) (hvx : Cells w (· < w.heap.size) x vx) (hvy : Cells w (· < w.heap.size) y vy) :
    Calls Try.prog 12 #[vx, .agg #[.int .i64 d.tag, .int .i64 d.num], vy, .agg #[.int .i64 u.tag, .int .i64 u.num]] w fun r w' => SameR (SameW x y d u) w w' r := by
  obtain ⟨xa, xcap, rfl⟩ := hvx.slice
  obtain ⟨ya, ycap, rfl⟩ := hvy.slice
  have hb2 := sm_two w (.cells #[.int .i64 d.tag, .int .i64 d.num] 29) (.cells #[.int .i64 u.tag, .int .i64 u.num] 29)
  by_cases htt : d.tag = u.tag
  case neg =>
    have f1 : (d.tag != u.tag) = true := by simpa using htt
    have HN : Hid (¬ SameW x y d u) := fun h => htt (ww_yes h)
    clear htt
    go_enter Try.func12, Try.ntmps12
    go_wp2_with fail
    go_ret
    exact post_false rfl HN.out (hb2)
  have f1 : (d.tag != u.tag) = false := by simpa using htt
  by_cases h4 : d.tag = 4
  case neg =>
    have f2 : (d.tag != 4) = true := by simpa using h4
    have HS := ww_no (x := x) (y := y) (u := u) h4
    by_cases hnn : d.num = u.num
    · have f3 : (d.num != u.num) = false := by simpa using hnn
      have HY : Hid (SameW x y d u) := HS.2 ⟨htt, hnn⟩
      clear htt hnn HS h4
      go_enter Try.func12, Try.ntmps12
      go_wp2_with fail
      go_ret
      exact post_true rfl HY.out (hb2)
    · have f3 : (d.num != u.num) = true := by simpa using hnn
      have HY : Hid (¬ SameW x y d u) := fun h => hnn (HS.1 h).2
      clear htt hnn HS h4
      go_enter Try.func12, Try.ntmps12
      go_wp2_with fail
      go_ret
      exact post_false rfl HY.out (hb2)
  have f2 : (d.tag != 4) = false := by simpa using h4
  obtain ⟨d0, d1⟩ := hd h4
  obtain ⟨u0, u1⟩ := hu (htt ▸ h4)
  have hq : wordsQ d u = true := by unfold wordsQ; rw [← htt, h4]; simp
  have hS := SmInv.start (x := x) (y := y) hq h4 (by omega) (by omega)
  have hdn : Hid (((d.num.toNat : Nat) : Int) = d.num) := by show _ = _; omega
  have hun : Hid (((u.num.toNat : Nat) : Int) = u.num) := by show _ = _; omega
  have KX : Hid (∀ w', Below w.heap.size w w' → ∀ (k : Nat) (hk : k < x.length), ∃ b off, xa = some ⟨b, off, none⟩ ∧ w'.rangeAt b (off + k * 6) x[k].cells) := fun w' h k hk => by
    obtain ⟨b, off, hSb, he, hr⟩ := hvx.at k hk
    exact ⟨b, off, by simpa using he, rw_same (h.block b hSb) hr⟩
  have KY : Hid (∀ w', Below w.heap.size w w' → ∀ (k : Nat) (hk : k < y.length), ∃ b off, ya = some ⟨b, off, none⟩ ∧ w'.rangeAt b (off + k * 6) y[k].cells) := fun w' h k hk => by
    obtain ⟨b, off, hSb, he, hr⟩ := hvy.at k hk
    exact ⟨b, off, by simpa using he, rw_same (h.block b hSb) hr⟩
  have hO3 := sm_row ((w.alloc (.cells #[.int .i64 d.tag, .int .i64 d.num] 29)).alloc (.cells #[.int .i64 u.tag, .int .i64 u.num] 29)) d.num u.num
  have hB3 : Below w.heap.size w (((w.alloc (.cells #[.int .i64 d.tag, .int .i64 d.num] 29)).alloc (.cells #[.int .i64 u.tag, .int .i64 u.num] 29)).alloc (.cells #[.int .i64 d.num, .int .i64 u.num] 54)) := hb2.alloc hb2.size _
  have hO4 : OwnP (((w.alloc (.cells #[.int .i64 d.tag, .int .i64 d.num] 29)).alloc (.cells #[.int .i64 u.tag, .int .i64 u.num] 29)).alloc (.cells #[.int .i64 d.num, .int .i64 u.num] 54)) w.heap.size [(d.num.toNat, u.num.toNat)] (.slice (some ⟨((w.alloc (.cells #[.int .i64 d.tag, .int .i64 d.num] 29)).alloc (.cells #[.int .i64 u.tag, .int .i64 u.num] 29)).heap.size, 0, none⟩) 1 1) := by
    have := ow_base (B' := w.heap.size) hO3 (by simp; omega)
    unfold OwnP OwnR
    simpa [prV, hdn.out, hun.out] using this
  have hz3 : ((w.alloc (.cells #[.int .i64 d.tag, .int .i64 d.num] 29)).alloc (.cells #[.int .i64 u.tag, .int .i64 u.num] 29)).heap.size = w.heap.size + 1 + 1 := by simp
  rw [hz3] at hO4
  clear hO3 hz3 hb2 hvx hvy hd hu htt h4 hq d0 d1 u0 u1 hdn hun
  go_enter Try.func12, Try.ntmps12
  go_wp2_with fail
  clear f1 f2
  go_loopg [9, 10] (x.length * y.length) (fun k v i wr => ∃ (j : Nat) (T : Prs), j + k = x.length * y.length ∧ i = .int .i64 j ∧ SmInv x y d u T j ∧ j ≤ T.length ∧ OwnP wr w.heap.size T v ∧ Below w.heap.size w wr)
  case atStart => exact ⟨0, _, by omega, rfl, hS, Nat.zero_le _, hO4, hB3⟩
  case round =>
    clear hS hO4 hB3
    obtain ⟨j, T, hj, rfl, hI, hjT, hO, hB⟩ := hrel
    have hfew := hI.few
    have hxy : x.length * y.length ≤ 14400 := Nat.mul_le_mul hxl hyl
    have hz := hB.size
    obtain ⟨ta, tcap, rfl⟩ : ∃ ta tcap, u9 = .slice ta T.length tcap := (hO.row pr_len).slice
    by_cases hlt : j < T.length
    · have hji : (j : Int) < (T.length : Int) := by omega
      obtain ⟨b1, o1, hb1, rfl, r1⟩ := (hO.row pr_len).at j hlt
      have htj : T[j]? = some T[j] := List.getElem?_eq_getElem hlt
      have hl := hI.lt T[j] (List.getElem_mem hlt)
      have d0 : wr.cell? ⟨b1, o1 + j * 2, none⟩ = some (.int .i64 (T[j].1 : Int)) := r1 0 _ rfl
      have d1 : wr.cell? ⟨b1, o1 + j * 2 + 1, none⟩ = some (.int .i64 (T[j].2 : Int)) := r1 1 _ rfl
      generalize T[j] = pr at *
      obtain ⟨a, b⟩ := pr
      dsimp only at hl d0 d1
      obtain ⟨la, lb⟩ := hl
      obtain ⟨bx, ox, rfl, rx⟩ := KX.out wr hB a la
      obtain ⟨by', oy, rfl, ry⟩ := KY.out wr hB b lb
      have hpx : x[a]? = some x[a] := List.getElem?_eq_getElem la
      have hqy : y[b]? = some y[b] := List.getElem?_eq_getElem lb
      have hfail := hI.fail (a := a) (b := b) htj hpx hqy
      have hstep := fun h1 h2 h3 h4 => hI.step hx hy (a := a) (b := b) htj hpx hqy h1 h2 h3 h4
      obtain ⟨rxa, rxb⟩ := hx x[a] (List.getElem_mem la)
      obtain ⟨rya, ryb⟩ := hy y[b] (List.getElem_mem lb)
      obtain ⟨m0, m1, m2, m3, m4, m5⟩ := Ce.six rx
      have ry1 := rw_same (w' := wr.alloc (ceBx x[a])) ((bt_sm wr _).block by' (World.block_lt_of_cell? wr _ (ry 0 _ rfl))) ry
      obtain ⟨n0, n1, n2, n3, n4, n5⟩ := Ce.six ry1
      have d1' : (wr.alloc (ceBx x[a])).cell? ⟨b1, o1 + j * 2 + 1, none⟩ = some (.int .i64 (b : Int)) := by rw [(bt_sm wr _).cell (p := ⟨b1, o1 + j * 2 + 1, none⟩) (World.block_lt_of_cell? wr _ d1)]; exact d1
      clear rx ry ry1 r1
      generalize x[a] = p at *
      generalize y[b] = q at *
      have hla : (a : Int) < (x.length : Int) := by omega
      have hlb : (b : Int) < (y.length : Int) := by omega
      go_upto_region 11 with fail
      change Code.wp _ _ _ _ ((wr.alloc (ceBx p)).alloc (ceBx q))
      have hp1 : (wr.alloc (ceBx p)).heap[wr.heap.size]? = some (ceBx p) := heap_alloc_new wr _
      have hq1 : ((wr.alloc (ceBx p)).alloc (ceBx q)).heap[wr.heap.size + 1]? = some (ceBx q) := by
        have := heap_alloc_new (wr.alloc (ceBx p)) (ceBx q)
        rw [show (wr.alloc (ceBx p)).heap.size = wr.heap.size + 1 by simp] at this
        exact this
      have hp2 := ((bt_sm (wr.alloc (ceBx p)) (ceBx q)).block wr.heap.size (by simp)).trans hp1
      have hb2 := sm_two wr (ceBx p) (ceBx q)
      have hz2 : wr.heap.size + 2 ≤ ((wr.alloc (ceBx p)).alloc (ceBx q)).heap.size := by simp
      generalize (wr.alloc (ceBx p)).alloc (ceBx q) = W2 at *
      have KP : Hid (∀ w', Below W2.heap.size W2 w' → ((w'.cell? ⟨wr.heap.size, 0, none⟩ = some (.int .i64 p.kind) ∧ w'.cell? ⟨wr.heap.size, 1, none⟩ = some (.int .i64 p.num)) ∧ (w'.cell? ⟨wr.heap.size, 2, none⟩ = some (.int .i64 p.a.tag) ∧ w'.cell? ⟨wr.heap.size, 3, none⟩ = some (.int .i64 p.a.num)) ∧ (w'.cell? ⟨wr.heap.size, 4, none⟩ = some (.int .i64 p.b.tag) ∧ w'.cell? ⟨wr.heap.size, 5, none⟩ = some (.int .i64 p.b.num))) ∧ ((w'.cell? ⟨wr.heap.size + 1, 0, none⟩ = some (.int .i64 q.kind) ∧ w'.cell? ⟨wr.heap.size + 1, 1, none⟩ = some (.int .i64 q.num)) ∧ (w'.cell? ⟨wr.heap.size + 1, 2, none⟩ = some (.int .i64 q.a.tag) ∧ w'.cell? ⟨wr.heap.size + 1, 3, none⟩ = some (.int .i64 q.a.num)) ∧ (w'.cell? ⟨wr.heap.size + 1, 4, none⟩ = some (.int .i64 q.b.tag) ∧ w'.cell? ⟨wr.heap.size + 1, 5, none⟩ = some (.int .i64 q.b.num)))) := fun w' h =>
        ⟨ce_box ((h.block _ (by omega)).trans hp2), ce_box ((h.block _ (by omega)).trans hq1)⟩
      have hr2 : Below W2.heap.size W2 W2 := Below.refl _ _
      obtain ⟨⟨⟨x0, x1⟩, ⟨x2, x3⟩, ⟨x4, x5⟩⟩, ⟨⟨y0, y1⟩, ⟨y2, y3⟩, ⟨y4, y5⟩⟩⟩ := KP.out W2 hr2
      have HWa := fun w' => spec_l18Words p.a q.a w'
      have HWb := fun w' => spec_l18Words p.b q.b w'
      have hB2 := hB.trans (hb2.mono hz)
      clear m0 m1 m2 m3 m4 m5 n0 n1 n2 n3 n4 n5 d0 d1 d1' hp1
      by_cases hkk : p.kind = q.kind
      case neg =>
        have g1 : (p.kind != q.kind) = true := by simpa using hkk
        have HF : Hid (¬ SameW x y d u) := hfail (fun h => hkk h.1)
        clear hkk hfail hstep HWa HWb
        go_wp2_with fail
        go_ret
        exact post_false rfl HF.out (hB2)
      have g1 : (p.kind != q.kind) = false := by simpa using hkk
      by_cases hnn : p.num = q.num
      case neg =>
        have g2 : (p.num != q.num) = true := by simpa using hnn
        have HF : Hid (¬ SameW x y d u) := hfail (fun h => hnn h.2.1)
        clear hkk hnn hfail hstep HWa HWb
        go_wp2_with fail
        go_ret
        exact post_false rfl HF.out (hB2)
      have g2 : (p.num != q.num) = false := by simpa using hnn
      cases hwa : wordsQ p.a q.a
      · have HF : Hid (¬ SameW x y d u) := hfail (fun h => by rw [hwa] at h; exact absurd h.2.2.1 (by simp))
        rw [hwa] at HWa
        clear hkk hnn hwa hfail hstep HWb
        go_wp2_with (go_at_call 21; refine (HWa _).mono ?_; rintro r w3 ⟨rfl, hb3⟩)
        go_ret
        exact post_false rfl HF.out (hB2.trans (hb3.mono hB2.size))
      cases hwb : wordsQ p.b q.b
      · have HF : Hid (¬ SameW x y d u) := hfail (fun h => by rw [hwb] at h; exact absurd h.2.2.2 (by simp))
        rw [hwa] at HWa
        rw [hwb] at HWb
        clear hkk hnn hwa hwb hfail hstep
        go_upto_region 12 with (go_at_call 21; first
          | (refine (HWb w3).mono ?_; rintro r w4 ⟨rfl, hb4⟩; have hE4 := hc_next hE3 hb4)
          | (refine (HWa W2).mono ?_; rintro r w3 ⟨rfl, hb3⟩; have hE3 := hb3; clear x0 x1 x2 x3 x4 x5 y0 y1 y2 y3 y4 y5; (obtain ⟨⟨⟨x0, x1⟩, ⟨x2, x3⟩, ⟨x4, x5⟩⟩, ⟨⟨y0, y1⟩, ⟨y2, y3⟩, ⟨y4, y5⟩⟩⟩ := KP.out w3 hb3)))
        go_wp2_with fail
        go_ret
        exact post_false rfl HF.out (hB2.trans (hE4.mono hB2.size))
      · have hN := hstep hkk hnn hwa hwb
        have wa := hwa
        have wb := hwb
        unfold wordsQ at wa wb
        rw [Bool.and_eq_true, beq_iff_eq] at wa wb
        have hda : p.a.tag = 4 → 0 ≤ p.a.num := fun h => (rxa h).1
        have hqa : p.a.tag = 4 → 0 ≤ q.a.num := fun h => (rya (wa.1 ▸ h)).1
        have hdb : p.b.tag = 4 → 0 ≤ p.b.num := fun h => (rxb h).1
        have hqb : p.b.tag = 4 → 0 ≤ q.b.num := fun h => (ryb (wb.1 ▸ h)).1
        rw [hwa] at HWa
        rw [hwb] at HWb
        have hfew2 := hN.few
        obtain ⟨l1, e1⟩ := addP_old T p.a q.a
        obtain ⟨l2, e2⟩ := addP_old (addP T p.a q.a) p.b q.b
        have hl1 : T.length ≤ (addP T p.a q.a).length := by rw [e1, List.length_append]; omega
        have hl2 : (addP T p.a q.a).length ≤ (addP (addP T p.a q.a) p.b q.b).length := by rw [e2, List.length_append]; omega
        have hOw := (hO.lt)
        have HA := fun w' (h : Below wr.heap.size wr w') => spec_l18Add T (by omega) p.a q.a hda hqa w.heap.size w' _ (hO.keep h) (Nat.le_trans hz h.size)
        have HA2 := fun w' (v' : Value) (h : OwnP w' w.heap.size (addP T p.a q.a) v') (hz' : w.heap.size ≤ w'.heap.size) => spec_l18Add (addP T p.a q.a) (by omega) p.b q.b hdb hqb w.heap.size w' v' h hz'
        clear e1 e2 hda hqa hdb hqb wa wb hwa hwb hkk hnn hfail hstep rxa rxb rya ryb hO
        generalize addP (addP T p.a q.a) p.b q.b = T2 at *
        generalize addP T p.a q.a = T1 at *
        go_upto_region 13 with (go_at_call 21; first
          | (refine (HWb w3).mono ?_; rintro r w4 ⟨rfl, hb4⟩; have hE4 := hc_next hE3 hb4)
          | (refine (HWa W2).mono ?_; rintro r w3 ⟨rfl, hb3⟩; have hE3 := hb3; clear x0 x1 x2 x3 x4 x5 y0 y1 y2 y3 y4 y5; (obtain ⟨⟨⟨x0, x1⟩, ⟨x2, x3⟩, ⟨x4, x5⟩⟩, ⟨⟨y0, y1⟩, ⟨y2, y3⟩, ⟨y4, y5⟩⟩⟩ := KP.out w3 hb3)))
        clear x0 x1 x2 x3 x4 x5 y0 y1 y2 y3 y4 y5 HWa HWb hb3 hE3 hb4
        obtain ⟨⟨⟨x0, x1⟩, ⟨x2, x3⟩, ⟨x4, x5⟩⟩, ⟨⟨y0, y1⟩, ⟨y2, y3⟩, ⟨y4, y5⟩⟩⟩ := KP.out w4 hE4
        have hp4 := (hE4.block _ (by omega : wr.heap.size < W2.heap.size)).trans hp2
        have hq4 := (hE4.block _ (by omega : wr.heap.size + 1 < W2.heap.size)).trans hq1
        have hz4 := hE4.size
        have hAA := HA w4 (hc_next hb2 hE4)
        go_upto_region 14 with (go_at_call 22; refine hAA.mono ?_; rintro r w5 ⟨v5, rfl, hO5, hB5, hG5⟩)
        clear x0 x1 x2 x3 x4 x5 y0 y1 y2 y3 y4 y5 hAA HA
        have hp5 := (hG5.block wr.heap.size (by omega) (fun e => by have := (hOw _ e.symm).2; omega)).trans hp4
        have hq5 := (hG5.block (wr.heap.size + 1) (by omega) (fun e => by have := (hOw _ e.symm).2; omega)).trans hq4
        obtain ⟨⟨x0, x1⟩, ⟨x2, x3⟩, ⟨x4, x5⟩⟩ := ce_box hp5
        obtain ⟨⟨y0, y1⟩, ⟨y2, y3⟩, ⟨y4, y5⟩⟩ := ce_box hq5
        have hB4 := hB2.trans (hE4.mono hB2.size)
        have hBB5 := hB4.trans hB5
        have hAB := HA2 w5 v5 hO5 hBB5.size
        go_wp2_with (go_at_call 22; refine hAB.mono ?_; rintro r w6 ⟨v6, rfl, hO6, hB6, hG6⟩)
        go_roundg (x.length * y.length - (j + 1))
        case measure => omega
        case rel => exact ⟨j + 1, T2, by omega, by go_num, hN, by omega, hO6, hBB5.trans hB6⟩
    · obtain rfl : j = T.length := by omega
      have hji : ¬ (T.length : Int) < (T.length : Int) := by omega
      have hD : Hid (SameW x y d u) := hI.done
      clear hI
      go_wp2_with fail
      go_ret
      exact post_true rfl hD.out hB
end Go.Proofs.Ytpocmljbfcenfaa
