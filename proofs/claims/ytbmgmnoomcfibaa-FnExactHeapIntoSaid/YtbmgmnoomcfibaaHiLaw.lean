/-
  The law of HeapInto.
-/
import Derived.Test.YtbmgmnoomcfibaaHiTop
import Derived.Test.YtbmgmnoomcfibaaOwLaw
import Derived.Test.YtbmgmnoomcfibaaCeOwn
import Derived.Test.YtbmgmnoomcfibaaCeLeft
import Derived.Test.YtbmgmnoomcfibaaMkCell
import Derived.Deep.RegionHeld3
import Derived.Deep.DeepCutAuto
namespace Go.Proofs.Ytbmgmnoomcfibaa
open Go.RowKit

/-- A word in a block of its own. -/
def BoxAt (T : TypeId) (w : World) (b : Nat) (d : Wd) : Prop := w.heap[b]? = some (.cells #[.int .i64 d.tag, .int .i64 d.num] T)
section
variable {T : TypeId} {w w' : World} {b : Nat} {d : Wd}
theorem BoxAt.lt (h : BoxAt T w b d) : b < w.heap.size := (Array.getElem?_eq_some_iff.1 h).1
theorem BoxAt.keep (h : BoxAt T w b d) (hb : Below w.heap.size w w') : BoxAt T w' b d := by unfold BoxAt; rw [hb.block b h.lt]; exact h
theorem BoxAt.but {u : Value} (h : BoxAt T w b d) (hg : w.grownBy w' u.ownBlock) (hu : ∀ k, u.ownBlock = some k → b ≠ k) : BoxAt T w' b d := by
  unfold BoxAt
  rw [hg.block b h.lt (fun e => hu b e.symm rfl)]
  exact h
theorem BoxAt.two (h : BoxAt T w b d) : w.cell? ⟨b, 0, none⟩ = some (.int .i64 d.tag) ∧ w.cell? ⟨b, 1, none⟩ = some (.int .i64 d.num) := by
  rw [cell_of_row _ _ _ _ _ _ h, cell_of_row _ _ _ _ _ _ h]
  exact ⟨rfl, rfl⟩
end
theorem into_len (cs : List Ce) (d : Wd) (tl : List Ce) (ht : tl.length ≤ 1048576) : (intoC cs d tl).length ≤ 1048576 := by
  unfold intoC
  split
  · split
    · rename_i h; unfold intoFits at h; omega
    · exact ht
  · simp

theorem BoxAt.froz {T : TypeId} {w : World} {b : Nat} {d : Wd} (h : BoxAt T w b d) : ∀ o, w.frozen? ⟨b, o, none⟩ = false := fun o => by
  unfold World.frozen?
  rw [h]
  simp
/-- A new word, in the world behind a call. -/
theorem bx_new (w : World) {w' : World} (hb : Below (w.alloc (.cells #[.int .i64 0, .int .i64 0] 27)).heap.size (w.alloc (.cells #[.int .i64 0, .int .i64 0] 27)) w') : BoxAt 27 w' w.heap.size ⟨0, 0⟩ := BoxAt.keep (heap_alloc_new w _) hb
theorem bx_newD (w : World) {w' : World} (hb : Below (w.alloc (.cells #[.int .i64 0, .int .i64 0] 27)).drew.heap.size (w.alloc (.cells #[.int .i64 0, .int .i64 0] 27)).drew w') : BoxAt 27 w' w.heap.size ⟨0, 0⟩ := BoxAt.keep (w := (w.alloc (.cells #[.int .i64 0, .int .i64 0] 27)).drew) (heap_alloc_new w _) hb
theorem bx_set {T : TypeId} {w : World} {b : Nat} {d : Wd} (h : BoxAt T w b d) (e : Wd) : BoxAt T ((w.setCell ⟨b, 0, none⟩ (.int .i64 e.tag)).setCell ⟨b, 1, none⟩ (.int .i64 e.num)) b e := by
  unfold BoxAt World.setCell at *
  simp only [Array.getElem?_modify, if_true]
  rw [h]
  rfl
theorem hi_pre {w w' : World} {o : Obj} (h : Below (w.alloc o).heap.size (w.alloc o) w') : Below w.heap.size w w' := hc_next (below_new w o) h
/-- All that the law holds. -/
structure Sev (w : World) (N0 N3 N4 N5 N7 b9 : Nat) (d rd : Wd) (cs tl rc : List Ce) (s0 x0 x2 g0 : Value) : Prop where
  a : OwnC w N0 N3 rc s0
  b : BoxAt 27 w b9 rd
  c : OwnC w N3 N4 cs x0
  dd : OwnC w N4 N5 tl x2
  e : OwnC w N5 N7 rc g0
  f : BoxAt 27 w N7 rd
  t : BoxAt 24 w N0 d
theorem Sev.keep {w w' : World} {N0 N3 N4 N5 N7 b9 : Nat} {d rd : Wd} {cs tl rc : List Ce} {s0 x0 x2 g0 : Value} (h : Sev w N0 N3 N4 N5 N7 b9 d rd cs tl rc s0 x0 x2 g0) (hb : Below w.heap.size w w') : Sev w' N0 N3 N4 N5 N7 b9 d rd cs tl rc s0 x0 x2 g0 :=
  ⟨h.a.keep hb, h.b.keep hb, h.c.keep hb, h.dd.keep hb, h.e.keep hb, h.f.keep hb, h.t.keep hb⟩
/-- What the region leaves that calls HeapInto, begun in W0. -/
structure Got (w W0 : World) (d : Wd) (rc : List Ce) (rd : Wd) (rb : Bool) (x y z : Value) (wc : World) : Prop where
  row : OwnC wc W0.heap.size wc.heap.size rc x
  box : ∃ b, y = .pointer (some ⟨b, 0, none⟩) ∧ BoxAt 27 wc b rd ∧ W0.heap.size ≤ b ∧ x.ownBlock ≠ some b
  bool : z = .bool rb
  arg : BoxAt 24 wc w.heap.size d
  ext : Below W0.heap.size W0 wc
theorem got_set {w W0 w4 : World} {d : Wd} {rc : List Ce} {rd : Wd} {rb : Bool} {s0 : Value} {b X : Nat} (hT : BoxAt 24 W0 w.heap.size d) (hD : Below W0.heap.size W0 w4) (hs0 : w4.ownsRow X 42 6 s0 rc.length (rc.flatMap Ce.cells)) (hWX : W0.heap.size ≤ X) (bx : BoxAt 27 w4 b ⟨0, 0⟩) (hbX : b < X) (hWb : W0.heap.size ≤ b) :
    Got w W0 d rc rd rb s0 (.pointer (some ⟨b, 0, none⟩)) (.bool rb) ((w4.setCell ⟨b, 0, none⟩ (.int .i64 rd.tag)).setCell ⟨b, 1, none⟩ (.int .i64 rd.num)) := by
  have hne : s0.ownBlock ≠ some b := fun e => by have := (hs0.lt b e).1; omega
  have hk : ((w4.setCell ⟨b, 0, none⟩ (.int .i64 rd.tag)).setCell ⟨b, 1, none⟩ (.int .i64 rd.num)).ownsRow X 42 6 s0 rc.length (rc.flatMap Ce.cells) := (hs0.kept (ow_but_set w4 b 0 _) (Or.inr hne)).kept (ow_but_set _ b 1 _) (Or.inr hne)
  have hE := (hD.setCell (p := ⟨b, 0, none⟩) hWb (.int .i64 rd.tag)).setCell (p := ⟨b, 1, none⟩) hWb (.int .i64 rd.num)
  exact ⟨⟨ow_base hk hWX, fun k hk' => (hk.lt k hk').2⟩, ⟨b, rfl, bx_set bx rd, hWb, hne⟩, rfl, hT.keep hE, hE⟩
theorem got_last {w W0 w4 : World} {d : Wd} {rc : List Ce} {rd : Wd} {rb : Bool} {s0 : Value} {X : Nat} (hT : BoxAt 24 W0 w.heap.size d) (hD : Below W0.heap.size W0 w4) (hs0 : w4.ownsRow X 42 6 s0 rc.length (rc.flatMap Ce.cells)) (hWX : W0.heap.size ≤ X) :
    Got w W0 d rc rd rb s0 (.pointer (some ⟨w4.heap.size, 0, none⟩)) (.bool rb) (w4.alloc (.cells #[.int .i64 rd.tag, .int .i64 rd.num] 27)) := by
  have hne : s0.ownBlock ≠ some w4.heap.size := fun e => by have := (hs0.lt _ e).2; omega
  have hE := hD.alloc hD.size (.cells #[.int .i64 rd.tag, .int .i64 rd.num] 27)
  exact ⟨⟨ow_base (hs0.alloc _) hWX, fun k hk => ((hs0.alloc _).lt k hk).2⟩, ⟨_, rfl, heap_alloc_new _ _, hD.size, hne⟩, rfl, hT.keep hE, hE⟩

set_option maxRecDepth 100000 in
set_option maxHeartbeats 8000000 in
theorem law_HeapInto (cs : List Ce) (hlen : cs.length ≤ maxLen) (d : Wd) (tl : List Ce) (htlen : tl.length ≤ maxLen) (w : World) (v vo : Value) (hv : Cells w (· < w.heap.size) cs v) (hvo : Cells w (· < w.heap.size) tl vo) :
    Calls Try.prog 3 #[v, .agg #[.int .i64 d.tag, .int .i64 d.num], vo] w fun r w' => r = .returned (.bool true) ∧ Below w.heap.size w w' := by
  obtain ⟨a, cap, rfl⟩ := hv.slice
  obtain ⟨oa, ocap, rfl⟩ := hvo.slice
  have hB0 : Below w.heap.size w (w.alloc (.cells #[.int .i64 d.tag, .int .i64 d.num] 24)) := below_new w _
  have hT0 : BoxAt 24 (w.alloc (.cells #[.int .i64 d.tag, .int .i64 d.num] 24)) w.heap.size d := heap_alloc_new _ _
  go_enter Try.func3, Try.ntmps3
  go_upto_region 1 with fail
  generalize hWW : w.alloc (.cells #[.int .i64 d.tag, .int .i64 d.num] 24) = W0 at *
  clear hWW
  go_upto_region 5 with (go_at_call_of 4 cap; refine (law_szCellL cs hlen _ a cap 1048576 (by omega)).mono ?_; rintro r w2 ⟨⟨n, rfl, hn1, hn2⟩, hww⟩; have hw2 := hww.symm; clear hww; subst hw2; have hwee : Hid (0 ≤ n → cs.length ≤ 1048576) := hn2; clear hn2)
  · go_ret
    exact ⟨rfl, hB0⟩
  have hl := hwee.out (by omega)
  clear hwee
  obtain ⟨n', rfl⟩ : ∃ n' : Nat, n = (n' : Int) := ⟨n.toNat, by omega⟩
  have hszo := fun w => law_szCellL tl htlen w oa ocap n' (by omega)
  go_upto_region 8 with (go_at_call_of 4 ocap; refine (hszo _).mono ?_; rintro r w2 ⟨⟨m, rfl, hm1, hm2⟩, hww⟩; have hw2 := hww.symm; clear hww; subst hw2; have hwee : Hid (0 ≤ m → tl.length ≤ n') := hm2; clear hm2)
  · go_ret
    exact ⟨rfl, hB0⟩
  have htl : tl.length ≤ 1048576 := by have := hwee.out (by omega); omega
  clear hwee hszo
  have hrl := into_len cs d tl htl
  have hS := fun w' v vo hv hvo => spec_HeapInto cs hl d tl htl v vo w' hv hvo
  have hI := fun w' v vo hv hvo => impl_HeapInto cs hl d tl htl v vo w' hv hvo
  generalize intoC cs d tl = rc at *
  generalize intoW cs d tl = rd at *
  generalize intoB cs d tl = rb at *
  have hvk : ∀ w', Below w.heap.size w w' → Cells w' (· < w'.heap.size) cs (.slice a cs.length cap) := fun w' hb => hv.keep hb hb.size
  have hok : ∀ w', Below w.heap.size w w' → Cells w' (· < w'.heap.size) tl (.slice oa tl.length ocap) := fun w' hb => hvo.keep hb hb.size
  have HS : ∀ w', Below W0.heap.size W0 w' → (w'.cell? ⟨w.heap.size, 0, none⟩ = some (.int .i64 d.tag) ∧ w'.cell? ⟨w.heap.size, 1, none⟩ = some (.int .i64 d.num)) := fun w' hb => (hT0.keep hb).two
  have hD0 : Below W0.heap.size W0 W0.drew := (Below.refl _ _).drew
  have hBx : ∀ w', Below W0.heap.size W0 w' → Below w.heap.size w w' := fun w' hb => hc_next hB0 hb
  go_cut [8, 9, 10] (fun x y z wc => Got w W0 d rc rd rb x y z wc)
  case first =>
    go_region_held3 (fun w' => w'.cell? ⟨w.heap.size, 0, none⟩ = some (.int .i64 d.tag) ∧ w'.cell? ⟨w.heap.size, 1, none⟩ = some (.int .i64 d.num)) (first | exact HS _ (by first | assumption | exact hc_next (by assumption) (below_new _ _)) | exact HS _ (Below.setCell (Below.setCell (by first | assumption | exact hc_next (by assumption) (below_new _ _)) (by dsimp only; omega) _) (by dsimp only; omega) _) | go_keep)
      (first
        | (go_at_call_of 6 cap; refine (own_toCellS cs hl _ _ (hvk _ (hBx _ (by first | exact hD0 | exact (below_new _ _).drew)))).mono ?_; rintro r w1 ⟨v1, rfl, hO1, hb1⟩; (try (replace bx := bx.keep hb1)); (try (have bx := bx_newD W0 hb1)); (try (obtain ⟨kx0, kx1⟩ := bx.two; have kxf := bx.froz)); have hD1 : Below W0.heap.size W0 w1 := hc_next (by first | exact hD0 | exact (below_new _ _).drew) hb1; have sD1 := hD1.size)
        | (go_at_call 7; refine (law_toWord d.tag d.num _).mono ?_; rintro r w2 ⟨rfl, hb2⟩; (try (replace bx := bx.keep hb2)); (try (have bx := bx_new w1 hb2)); (try (obtain ⟨kx0, kx1⟩ := bx.two; have kxf := bx.froz)); have hE2 : Below w1.heap.size w1 w2 := (by first | exact hb2 | exact hi_pre hb2); have hD2 : Below W0.heap.size W0 w2 := hc_next hD1 hE2; have sD2 := hD2.size)
        | (go_at_call_of 6 ocap; refine (own_toCellS tl htl _ _ (hok _ (hBx _ (by first | exact hD2 | exact hc_next hD2 (below_new _ _))))).mono ?_; rintro r w3 ⟨v3, rfl, hO3, hb3⟩; (try (replace bx := bx.keep hb3)); (try (have bx := bx_new w2 hb3)); (try (obtain ⟨kx0, kx1⟩ := bx.two; have kxf := bx.froz; have bxl := bx.lt)); have hE3 : Below w2.heap.size w2 w3 := (by first | exact hb3 | exact hi_pre hb3); have hD3 : Below W0.heap.size W0 w3 := hc_next hD2 hE3; have sD3 := hD3.size; have hR1 : ∀ X, Below w3.heap.size w3 X → Cells X (· < X.heap.size) cs v1 := fun X hX => OwnC.row (lo := 0) (hi := X.heap.size) ⟨ow_base (ow_keep (ow_keep (ow_keep hO1 hE2) hE3) hX) (Nat.zero_le _), fun k hk => ((ow_keep (ow_keep (ow_keep hO1 hE2) hE3) hX).lt k hk).2⟩; have hR3 : ∀ X, Below w3.heap.size w3 X → Cells X (· < X.heap.size) tl v3 := fun X hX => OwnC.row (lo := 0) (hi := X.heap.size) ⟨ow_base (ow_keep hO3 hX) (Nat.zero_le _), fun k hk => ((ow_keep hO3 hX).lt k hk).2⟩)
        | (go_at_call 5; refine (hS _ _ _ (hR1 _ (by first | exact Below.refl _ _ | exact below_new _ _)) (hR3 _ (by first | exact Below.refl _ _ | exact below_new _ _))).mono ?_; rintro r w4 ⟨s0, rfl, hs0, hb4⟩; (try (replace bx := bx.keep hb4)); (try (have bx := bx_new w3 hb4)); (try (obtain ⟨kx0, kx1⟩ := bx.two; have kxf := bx.froz)); have hE4 : Below w3.heap.size w3 w4 := (by first | exact hb4 | exact hi_pre hb4); have hD4 : Below W0.heap.size W0 w4 := hc_next hD3 hE4; have sD4 := hD4.size))
    all_goals
      go_wp2_with fail
      go_meet
      case rel =>
        first
          | exact got_last hT0 hD4 hs0 sD3
          | exact got_set hT0 hD4 hs0 (by simp; omega) bx (by simp) (by omega)
          | exact got_set hT0 hD4 hs0 (by omega) bx (by omega) (by omega)
  case rest =>
    obtain ⟨R8, ⟨b9, rfl, B9, hb9lo, hb9ne⟩, rfl, T8, E8⟩ := hcut
    have hB3 := hc_next hB0 E8
    have hS0 : OwnC wc w.heap.size wc.heap.size rc u8 := ⟨ow_base R8.1 hB0.size, R8.2⟩
    clear HS hD0 hBx R8 E8 hS
    have hvk3 := hvk _ hB3
    have hok3 := hok _ hB3
    go_upto_region 12 with (first
      | (go_at_call_of 6 cap; refine (own_toCellS cs hl _ _ hvk3).mono ?_; rintro r w4 ⟨x0, rfl, hO4, hb4⟩)
      | (go_at_call_of 6 ocap; refine (own_toCellS tl htl _ _ (hok3.keep hb4 hb4.size)).mono ?_; rintro r w5 ⟨x2, rfl, hO5, hb5⟩; obtain ⟨ya, yb⟩ := ((T8.keep hb4).keep hb5).two)
      | (go_at_call 7; refine (law_toWord d.tag d.num _).mono ?_; rintro r w6 ⟨rfl, hb6⟩)
      | (go_at_call 8; refine (hI _ _ _ (OwnC.row (lo := wc.heap.size) (hi := w6.heap.size) ⟨ow_keep (ow_keep hO4 hb5) hb6, fun k hk => ((ow_keep (ow_keep hO4 hb5) hb6).lt k hk).2⟩) (OwnC.row (lo := w4.heap.size) (hi := w6.heap.size) ⟨ow_keep hO5 hb6, fun k hk => ((ow_keep hO5 hb6).lt k hk).2⟩)).mono ?_; rintro r w7 ⟨g0, rfl, hg0, hb7⟩))
    have hb8 := below_new w7 (.cells #[.int .i64 rd.tag, .int .i64 rd.num] 27)
    have hB8 := hc_next (hc_next (hc_next (hc_next (hc_next hB3 hb4) hb5) hb6) hb7) hb8
    have z4 := hb4.size
    have z5 := hb5.size
    have z6 := hb6.size
    have z7 := hb7.size
    have A8 : Sev (w7.alloc (.cells #[.int .i64 rd.tag, .int .i64 rd.num] 27)) w.heap.size wc.heap.size w4.heap.size w5.heap.size w7.heap.size b9 d rd cs tl rc u8 x0 x2 g0 := ⟨((((hS0.keep hb4).keep hb5).keep hb6).keep hb7).keep hb8, ((((B9.keep hb4).keep hb5).keep hb6).keep hb7).keep hb8, (((OwnC.keep ⟨hO4, fun k hk => (hO4.lt k hk).2⟩ hb5).keep hb6).keep hb7).keep hb8, ((OwnC.keep ⟨hO5, fun k hk => (hO5.lt k hk).2⟩ hb6).keep hb7).keep hb8, OwnC.keep ⟨ow_base hg0 z6, fun k hk => (hg0.lt k hk).2⟩ hb8, heap_alloc_new _ _, ((((T8.keep hb4).keep hb5).keep hb6).keep hb7).keep hb8⟩
    have hb9N := B9.lt
    have hn0N := T8.lt
    have z3 := hB3.size
    clear hO4 hb4 hO5 hb5 hb6 hg0 hb7 hb8 hS0 B9 T8 hvk3 hok3 hB3 ya yb hb9ne
    generalize wc.heap.size = N3 at *
    generalize w4.heap.size = N4 at *
    generalize w5.heap.size = N5 at *
    generalize w7.heap.size = N7 at *
    generalize w7.alloc (.cells #[.int .i64 rd.tag, .int .i64 rd.num] 27) = w8 at *
    have hz57 : N5 ≤ N7 := Nat.le_trans z6 z7
    clear z6 z7
    go_upto_region 14 with (first
      | (go_at_call 9; refine (law_eqCellS rc hrl _ _ _ A8.e.row A8.a.row).mono ?_; rintro r w9 ⟨rfl, hb9⟩; have A9 := A8.keep hb9; have hB9 := hc_next hB8 hb9; obtain ⟨p0, p1⟩ := A9.f.two; obtain ⟨q0, q1⟩ := A9.b.two)
      | (go_at_call 10; refine (law_eqWord rd.tag rd.num _).mono ?_; rintro r w10 ⟨rfl, hb10⟩; have A10 := A9.keep hb10; have hB10 := hc_next hB9 hb10))
    clear A8 hB8 hb9 A9 hB9 p0 p1 q0 q1 hb10
    have hvk10 := hvk _ hB10
    go_upto_region 16 with (first
      | (go_at_call 6; refine (law_toCellS cs hl _ _ hvk10).mono ?_; rintro r w11 ⟨y11, rfl, hy11, hb11⟩; have A11 := A10.keep hb11; have hB11 := hc_next hB10 hb11)
      | (go_at_call 9; refine (law_eqCellS cs hl _ _ _ A11.c.row (hy11.same fun _ hb => ⟨rfl, hb.2⟩)).mono ?_; rintro r w12 ⟨rfl, hb12⟩; have A12 := A11.keep hb12; have hB12 := hc_next hB11 hb12))
    clear A10 hB10 hy11 hb11 A11 hB11 hb12 hvk10
    have hok12 := hok _ hB12
    go_upto_region 18 with (first
      | (go_at_call 6; refine (law_toCellS tl htl _ _ hok12).mono ?_; rintro r w13 ⟨y13, rfl, hy13, hb13⟩; have A13 := A12.keep hb13; have hB13 := hc_next hB12 hb13)
      | (go_at_call 9; refine (law_eqCellS tl htl _ _ _ A13.dd.row (hy13.same fun _ hb => ⟨rfl, hb.2⟩)).mono ?_; rintro r w14 ⟨rfl, hb14⟩; have A14 := A13.keep hb14; have hB14 := hc_next hB13 hb14))
    clear A12 hB12 hy13 hb13 A13 hB13 hb14 hok12
    obtain ⟨k1, hk1⟩ : ∃ k, k = 1 + cs.length * 6 := ⟨_, rfl⟩
    obtain ⟨k2, hk2⟩ : ∃ k, k = k1 + tl.length * 6 := ⟨_, rfl⟩
    obtain ⟨m1, hm1'⟩ : ∃ k, k = 1 + rc.length * 6 := ⟨_, rfl⟩
    have bk1 : k1 ≤ 10000000 := by omega
    have mx0 : ∀ w x, OwnC w N3 N4 cs x → Calls Try.prog 11 #[x, .int .i64 1] w fun r w' => r = .returned (.int .i64 (k1 : Int)) ∧ w.grownBy w' x.ownBlock := fun w x h => (law_markCellS cs.length _ x w N3 1 (by omega) (by omega) h.1).mono fun r w' ⟨h1, _, h3⟩ => ⟨by rw [h1, hk1], h3⟩
    have mx2 : ∀ w x, OwnC w N4 N5 tl x → Calls Try.prog 11 #[x, .int .i64 (k1 : Int)] w fun r w' => r = .returned (.int .i64 (k2 : Int)) ∧ w.grownBy w' x.ownBlock := fun w x h => (law_markCellS tl.length _ x w N4 k1 (by omega) bk1 h.1).mono fun r w' ⟨h1, _, h3⟩ => ⟨by rw [h1, hk2], h3⟩
    have mg0 : ∀ w x, OwnC w N5 N7 rc x → Calls Try.prog 11 #[x, .int .i64 1] w fun r w' => r = .returned (.int .i64 (m1 : Int)) ∧ MarkC w' N5 rc.length 1 x ∧ w.grownBy w' x.ownBlock := fun w x h => (law_markCellS rc.length _ x w N5 1 (by omega) (by omega) h.1).mono fun r w' ⟨h1, h2, h3⟩ => ⟨by rw [h1, hm1'], h2, h3⟩
    have hh0 : ∀ w x, MarkC w N5 rc.length 1 x → Calls Try.prog 12 #[x, .int .i64 1] w fun r w' => r = .returned (.int .i64 (m1 : Int)) ∧ w' = w := fun w x h => (law_heldCellS rc.length 1 x w N5 (by omega) (by omega) h).mono fun r w' ⟨h1, h2⟩ => ⟨by rw [h1, hm1'], h2⟩
    clear hk1 hk2 hm1'
    have fx0 : ∀ k, x0.ownBlock = some k → N3 ≤ k := fun k hk => (A14.c.1.lt k hk).1
    have fx2 : ∀ k, x2.ownBlock = some k → N4 ≤ k := fun k hk => (A14.dd.1.lt k hk).1
    have fg0 : ∀ k, g0.ownBlock = some k → N5 ≤ k := fun k hk => (A14.e.1.lt k hk).1
    have lx0 := A14.c.2
    have lx2 := A14.dd.2
    have lg0 := A14.e.2
    go_upto_region 20 with (go_at_call 11; refine (mx0 _ _ A14.c).mono ?_; rintro r w15 ⟨rfl, hg15⟩)
    have D15 := A14.dd.but hg15 (far' lx0 fx2)
    go_upto_region 21 with (go_at_call 11; refine (mx2 _ _ D15).mono ?_; rintro r w16 ⟨rfl, hg16⟩)
    have S16 := (A14.a.but hg15 (far A14.a.2 fx0)).but hg16 (far (N := N3) A14.a.2 (fun k hk => Nat.le_trans z4 (fx2 k hk)))
    have B16 := (A14.b.but hg15 (fun k hk => by have := fx0 k hk; omega)).but hg16 (fun k hk => by have := fx2 k hk; omega)
    have G16 := (A14.e.but hg15 (far' (N := N5) (fun k hk => Nat.lt_of_lt_of_le (lx0 k hk) z5) fg0)).but hg16 (far' lx2 fg0)
    have F16 := (A14.f.but hg15 (fun k hk => by have := lx0 k hk; omega)).but hg16 (fun k hk => by have := lx2 k hk; omega)
    have T16 := (A14.t.but hg15 (fun k hk => by have := fx0 k hk; omega)).but hg16 (fun k hk => by have := fx2 k hk; omega)
    have hB16 := (hB14.grown hg15 hB14.size (fun k hk => by have := fx0 k hk; omega)).grown hg16 (Nat.le_trans hB14.size hg15.size) (fun k hk => by have := fx2 k hk; omega)
    clear hg15 hg16 A14 hB14 mx0 mx2 D15 lx0 lx2 fx0 fx2
    go_upto_region 23 with (first
      | (go_at_call 9; refine (law_eqCellS rc hrl _ _ _ G16.row S16.row).mono ?_; rintro r w17 ⟨rfl, hb17⟩; have S17 := S16.keep hb17; have B17 := B16.keep hb17; have G17 := G16.keep hb17; have F17 := F16.keep hb17; have T17 := T16.keep hb17; have hB17 := hc_next hB16 hb17; obtain ⟨p0, p1⟩ := F17.two; obtain ⟨q0, q1⟩ := B17.two)
      | (go_at_call 10; refine (law_eqWord rd.tag rd.num _).mono ?_; rintro r w18 ⟨rfl, hb18⟩; have S18 := S17.keep hb18; have B18 := B17.keep hb18; have G18 := G17.keep hb18; have T18 := T17.keep hb18; have hB18 := hc_next hB17 hb18))
    clear S16 B16 G16 F16 T16 hB16 hb17 S17 B17 G17 F17 T17 hB17 hb18 p0 p1 q0 q1
    go_upto_region 26 with (go_at_call 11; refine (mg0 _ _ G18).mono ?_; rintro r w19 ⟨rfl, M19, hg19⟩)
    have S19 := S18.but hg19 (far (N := N3) S18.2 (fun k hk => by have := fg0 k hk; omega))
    have B19 := B18.but hg19 (fun k hk => by have := fg0 k hk; omega)
    have T19 := T18.but hg19 (fun k hk => by have := fg0 k hk; omega)
    have hB19 := hB18.grown hg19 hB18.size (fun k hk => by have := fg0 k hk; omega)
    clear S18 B18 G18 T18 hB18 hg19 mg0
    go_upto_region 31 with (go_at_call 12; refine (hh0 _ _ M19).mono ?_; rintro r w20 ⟨rfl, e20⟩; have e20' := e20.symm; clear e20; subst e20')
    obtain ⟨WY, hWY⟩ : ∃ W, W = w19 := ⟨_, rfl⟩
    rw [← hWY] at M19 S19 B19 T19 hB19 ⊢
    clear hWY
    have TY := T19
    have hBY := hB19
    have HS : ∀ w', Below WY.heap.size WY w' → (w'.cell? ⟨w.heap.size, 0, none⟩ = some (.int .i64 d.tag) ∧ w'.cell? ⟨w.heap.size, 1, none⟩ = some (.int .i64 d.num)) := fun w' hb => (TY.keep hb).two
    have hD0 : Below WY.heap.size WY WY.drew := (Below.refl _ _).drew
    have hBx : ∀ w', Below WY.heap.size WY w' → Below w.heap.size w w' := fun w' hb => hc_next hBY hb
    go_cut [19, 20, 21] (fun x y z wc => Got w WY d rc rd rb x y z wc)
    case first =>
      go_region_held3 (fun w' => w'.cell? ⟨w.heap.size, 0, none⟩ = some (.int .i64 d.tag) ∧ w'.cell? ⟨w.heap.size, 1, none⟩ = some (.int .i64 d.num)) (first | exact HS _ (by first | assumption | exact hc_next (by assumption) (below_new _ _)) | exact HS _ (Below.setCell (Below.setCell (by first | assumption | exact hc_next (by assumption) (below_new _ _)) (by dsimp only; omega) _) (by dsimp only; omega) _) | go_keep)
        (first
          | (go_at_call_of 6 cap; refine (own_toCellS cs hl _ _ (hvk _ (hBx _ (by first | exact hD0 | exact (below_new _ _).drew)))).mono ?_; rintro r w1 ⟨v1, rfl, hO1, hb1⟩; (try (replace bx := bx.keep hb1)); (try (have bx := bx_newD WY hb1)); (try (obtain ⟨kx0, kx1⟩ := bx.two; have kxf := bx.froz)); have hD1 : Below WY.heap.size WY w1 := hc_next (by first | exact hD0 | exact (below_new _ _).drew) hb1; have sD1 := hD1.size)
          | (go_at_call 7; refine (law_toWord d.tag d.num _).mono ?_; rintro r w2 ⟨rfl, hb2⟩; (try (replace bx := bx.keep hb2)); (try (have bx := bx_new w1 hb2)); (try (obtain ⟨kx0, kx1⟩ := bx.two; have kxf := bx.froz)); have hE2 : Below w1.heap.size w1 w2 := (by first | exact hb2 | exact hi_pre hb2); have hD2 : Below WY.heap.size WY w2 := hc_next hD1 hE2; have sD2 := hD2.size)
          | (go_at_call_of 6 ocap; refine (own_toCellS tl htl _ _ (hok _ (hBx _ (by first | exact hD2 | exact hc_next hD2 (below_new _ _))))).mono ?_; rintro r w3 ⟨v3, rfl, hO3, hb3⟩; (try (replace bx := bx.keep hb3)); (try (have bx := bx_new w2 hb3)); (try (obtain ⟨kx0, kx1⟩ := bx.two; have kxf := bx.froz; have bxl := bx.lt)); have hE3 : Below w2.heap.size w2 w3 := (by first | exact hb3 | exact hi_pre hb3); have hD3 : Below WY.heap.size WY w3 := hc_next hD2 hE3; have sD3 := hD3.size; have hR1 : ∀ X, Below w3.heap.size w3 X → Cells X (· < X.heap.size) cs v1 := fun X hX => OwnC.row (lo := 0) (hi := X.heap.size) ⟨ow_base (ow_keep (ow_keep (ow_keep hO1 hE2) hE3) hX) (Nat.zero_le _), fun k hk => ((ow_keep (ow_keep (ow_keep hO1 hE2) hE3) hX).lt k hk).2⟩; have hR3 : ∀ X, Below w3.heap.size w3 X → Cells X (· < X.heap.size) tl v3 := fun X hX => OwnC.row (lo := 0) (hi := X.heap.size) ⟨ow_base (ow_keep hO3 hX) (Nat.zero_le _), fun k hk => ((ow_keep hO3 hX).lt k hk).2⟩)
          | (go_at_call 8; refine (hI _ _ _ (hR1 _ (by first | exact Below.refl _ _ | exact below_new _ _)) (hR3 _ (by first | exact Below.refl _ _ | exact below_new _ _))).mono ?_; rintro r w4 ⟨s0, rfl, hs0, hb4⟩; (try (replace bx := bx.keep hb4)); (try (have bx := bx_new w3 hb4)); (try (obtain ⟨kx0, kx1⟩ := bx.two; have kxf := bx.froz)); have hE4 : Below w3.heap.size w3 w4 := (by first | exact hb4 | exact hi_pre hb4); have hD4 : Below WY.heap.size WY w4 := hc_next hD3 hE4; have sD4 := hD4.size))
      all_goals
        go_wp2_with fail
        go_meet
        case rel =>
          first
            | exact got_last TY hD4 hs0 sD3
            | exact got_set TY hD4 hs0 (by simp; omega) bx (by simp) (by omega)
            | exact got_set TY hD4 hs0 (by omega) bx (by omega) (by omega)
    case rest =>
      obtain ⟨R20, ⟨b20, rfl, B20, _, _⟩, rfl, T20, E20⟩ := hcut
      have S21 := S19.keep E20
      have B21 := B19.keep E20
      have M21 : MarkC wc N5 rc.length 1 g0 := ow_keep M19 E20
      have hB21 := hc_next hB19 E20
      clear HS hD0 hBx E20 S19 B19 M19 hB19 hI T19 TY hBY
      go_upto_region 34 with (first
        | (go_at_call 9; refine (law_eqCellS rc hrl _ _ _ R20.row S21.row).mono ?_; rintro r w22 ⟨rfl, hb22⟩; have M22 : MarkC w22 N5 rc.length 1 g0 := ow_keep M21 hb22; have hB22 := hc_next hB21 hb22; obtain ⟨p0, p1⟩ := (B20.keep hb22).two; obtain ⟨q0, q1⟩ := (B21.keep hb22).two)
        | (go_at_call 10; refine (law_eqWord rd.tag rd.num _).mono ?_; rintro r w23 ⟨rfl, hb23⟩; have M23 : MarkC w23 N5 rc.length 1 g0 := ow_keep M22 hb23; have hB23 := hc_next hB22 hb23))
      clear M21 M22 hB21 hB22 R20 S21 B20 B21 p0 p1 q0 q1
      go_wp2_with (go_at_call 12; refine (hh0 _ _ M23).mono ?_; rintro r w24 ⟨rfl, e24⟩; have e24' := e24.symm; clear e24; subst e24')
      go_ret
      exact ⟨rfl, hB23⟩
end Go.Proofs.Ytbmgmnoomcfibaa
