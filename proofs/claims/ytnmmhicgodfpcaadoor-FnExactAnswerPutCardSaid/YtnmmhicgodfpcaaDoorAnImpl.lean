/-
  The program's AnswerPut.
-/
import Derived.Test.YtnmmhicgodfpcaaDoorAnMath
import Derived.Test.YtnmmhicgodfpcaaDoorAnLay
import Derived.Deep.RegionHeld3
import Derived.Deep.LoopGhost
import Derived.Deep.Cut
namespace Go.Proofs.YtnmmhicgodfpcaaDoor
open Go.RowKit

theorem an_next {w w2 w3 : World} (h1 : Below w.heap.size w w2) (h2 : Below w2.heap.size w2 w3) : Below w.heap.size w w3 := h1.trans (h2.mono h1.size)
theorem an_box {w wr : World} {s0 s1 s2 : Value} {T : TypeId} (h : Below (w.heap.size + 1) (w.alloc (.cells #[s0, s1, s2] T)) wr) : wr.cell? ⟨w.heap.size, 0, none⟩ = some s0 ∧ wr.cell? ⟨w.heap.size, 1, none⟩ = some s1 ∧ wr.cell? ⟨w.heap.size, 2, none⟩ = some s2 := by
  have key : ∀ j, wr.cell? ⟨w.heap.size, j, none⟩ = (#[s0, s1, s2] : Array Value)[j]? := fun j => by
    rw [h.cell (p := ⟨w.heap.size, j, none⟩) (by dsimp only; omega)]
    exact cell_of_row _ _ _ _ _ _ (heap_alloc_new w _)
  exact ⟨key 0, key 1, key 2⟩
theorem an_below {w wr : World} {o : Obj} (h : Below (w.heap.size + 1) (w.alloc o) wr) : Below w.heap.size w wr := ((Below.refl _ _).alloc (Nat.le_refl _) _).trans (h.mono (by omega))

set_option maxRecDepth 100000 in
set_option maxHeartbeats 4000000 in
theorem impl_AnswerPut (a : An) (ha : a.Ok) (hl : a.outs.length + a.ends.length + a.boxes.length ≤ 1048576) (w : World) (s0 s1 s2 : Value) (hv : AnAt w (· < w.heap.size) a s0 s1 s2) (hT : PowTab w) :
    Calls Tryd.prog 7 #[.agg #[s0, s1, s2]] w fun r w' => r = .returned (.string (bx (ansT a))) ∧ Below w.heap.size w w' := by
  obtain ⟨v0, v1, v2⟩ := hv
  obtain ⟨a0, cap0, rfl⟩ := v0.slice
  obtain ⟨a1, cap1, rfl⟩ := v1.slice
  obtain ⟨a2, cap2, rfl⟩ := v2.slice
  have b0 := fun k => take_len (f := toldT) a.outs k (fun x hx => told_len (ha.o x hx))
  have b1 := fun k => take_len (f := intT) a.ends k (fun x hx => int_len (ha.e x hx))
  have b2 := fun k => take_len (f := intT) a.boxes k (fun x hx => int_len (ha.b x hx))
  have c0 := flat_len (f := toldT) a.outs (fun x hx => told_len (ha.o x hx))
  have c1 := flat_len (f := intT) a.ends (fun x hx => int_len (ha.e x hx))
  have c2 := flat_len (f := intT) a.boxes (fun x hx => int_len (ha.b x hx))
  have HW1 := fun w' (h : Bld w' (w.heap.size + 1) (w.heap.size + 1) []) (hB : w.heap.size + 1 ≤ w'.heap.size) => bld_write w' _ _ [] outsB h (by decide) hB
  have n0 : Bld ((w.alloc (.cells #[.slice a0 a.outs.length cap0, .slice a1 a.ends.length cap1, .slice a2 a.boxes.length cap2] 30)).alloc (.cells #[.pointer none, .slice none 0 0] 41)) (w.heap.size + 1) (w.heap.size + 1) [] := by simpa using bld_new (w.alloc (.cells #[.slice a0 a.outs.length cap0, .slice a1 a.ends.length cap1, .slice a2 a.boxes.length cap2] 30))
  have k0 : Below (w.heap.size + 1) (w.alloc (.cells #[.slice a0 a.outs.length cap0, .slice a1 a.ends.length cap1, .slice a2 a.boxes.length cap2] 30)) ((w.alloc (.cells #[.slice a0 a.outs.length cap0, .slice a1 a.ends.length cap1, .slice a2 a.boxes.length cap2] 30)).alloc (.cells #[.pointer none, .slice none 0 0] 41)) := (Below.refl _ _).alloc (by simp) _
  go_enter Tryd.func7, Tryd.ntmps7
  go_upto_region 3 with (go_at_call 14; refine (HW1 _ n0 (by simp)).mono ?_; rintro e w1 ⟨⟨n1, rfl⟩, hB1, hb1, _⟩; have hA1 := k0.trans hb1)
  rw [List.nil_append] at hB1
  clear n0 k0 hb1 HW1
  obtain ⟨x0, x1, x2⟩ := an_box hA1
  go_wp2_with fail
  clear x0 x1 x2
  go_loopg [14] a.outs.length (fun g i wr => ∃ k : Nat, k + g = a.outs.length ∧ i = .int .i64 (k : Int) ∧ Bld wr (w.heap.size + 1) (w.heap.size + 1) (outsB ++ (a.outs.take k).flatMap toldT) ∧ Below (w.heap.size + 1) (w.alloc (.cells #[.slice a0 a.outs.length cap0, .slice a1 a.ends.length cap1, .slice a2 a.boxes.length cap2] 30)) wr)
  case atStart => exact ⟨0, by omega, rfl, by simpa using hB1, hA1⟩
  case round =>
    clear hB1 hA1
    obtain ⟨k, hk, rfl, hBr, hAr⟩ := hrel
    have hzb := bld_lt hBr
    have hsr : w.heap.size + 1 ≤ wr.heap.size := by omega
    by_cases hlt : k < a.outs.length
    · obtain ⟨b, off, hS, rfl, hr⟩ := v0.at k hlt
      have hwr := an_below hAr
      obtain ⟨d0, d1⟩ := Wd.two (rw_same (hwr.block b hS) hr)
      clear hr
      have hki : (k : Int) < (a.outs.length : Int) := by omega
      have hx := ha.o _ (List.getElem_mem hlt)
      have hbk := b0 k
      have hTK := take_flat (f := toldT) a.outs k hlt
      generalize a.outs[k] = x at d0 d1 hx hTK
      have hg1 := itoa_len x.tag hx.1
      have hg2 := itoa_len x.num hx.2
      obtain ⟨W2, hW2⟩ : ∃ W, W = wr.alloc (.cells #[.int .i64 x.tag, .int .i64 x.num] 47) := ⟨_, rfl⟩
      have hw2 : Below wr.heap.size wr W2 := by rw [hW2]; exact (Below.refl _ _).alloc (Nat.le_refl _) _
      have HP : ∀ w', Below W2.heap.size W2 w' → PowTab w' := fun w' h => hT.keep (an_next (an_next hwr hw2) h)
      have HI1 : ∀ w', Below W2.heap.size W2 w' → Calls Tryd.prog 15 #[.int .i64 x.tag] w' fun e w2 => e = .returned (.string (bx (Lib.itoa x.tag))) ∧ Below w'.heap.size w' w2 := fun w' h => impl_Itoa x.tag hx.1.1 hx.1.2 w' (HP w' h)
      have HI2 : ∀ w', Below W2.heap.size W2 w' → Calls Tryd.prog 15 #[.int .i64 x.num] w' fun e w2 => e = .returned (.string (bx (Lib.itoa x.num))) ∧ Below w'.heap.size w' w2 := fun w' h => impl_Itoa x.num hx.2.1 hx.2.2 w' (HP w' h)
      have HW : ∀ w', Below W2.heap.size W2 w' → Calls Tryd.prog 14 #[.pointer (some ⟨w.heap.size + 1, 0, none⟩), .string ((⟨#[32]⟩ : ByteArray) ++ bx (Lib.itoa x.tag) ++ ⟨#[58]⟩ ++ bx (Lib.itoa x.num))] w' fun e w2 => (∃ n, e = .returned (.tuple #[.int .i64 n, .nilIface])) ∧ Bld w2 (w.heap.size + 1) (w.heap.size + 1) (outsB ++ (a.outs.take k).flatMap toldT ++ toldT x) ∧ Below (w.heap.size + 1) w' w2 ∧ Oth (w.heap.size + 1) w' w2 := fun w' h => by
        rw [told_bytes]
        have := told_len hx
        exact bld_write w' _ _ _ _ (bld_keep (bld_keep hBr hw2) h) (by rw [List.length_append]; have : outsB.length = 4 := rfl; omega) (Nat.le_trans hsr (Nat.le_trans hw2.size h.size))
      have hn0 : W2.heap[wr.heap.size]? = some (.cells #[.int .i64 x.tag, .int .i64 x.num] 47) := by rw [hW2]; exact heap_alloc_new wr _
      have HS : Hid (∀ w' : World, w'.heap[wr.heap.size]? = some (.cells #[.int .i64 x.tag, .int .i64 x.num] 47) → w'.cell? ⟨wr.heap.size, 0, none⟩ = some (.int .i64 x.tag) ∧ w'.cell? ⟨wr.heap.size, 1, none⟩ = some (.int .i64 x.num)) := fun w' h => ⟨by rw [cell_of_row _ _ _ _ _ _ h]; rfl, by rw [cell_of_row _ _ _ _ _ _ h]; rfl⟩
      have hd1 : Below W2.heap.size W2 W2.drew := (Below.refl _ _).drew
      have hz2 : wr.heap.size < W2.heap.size := by rw [hW2]; simp
      have hn1 : W2.drew.heap[wr.heap.size]? = some (.cells #[.int .i64 x.tag, .int .i64 x.num] 47) := hn0
      have hA2 : Below (w.heap.size + 1) (w.alloc (.cells #[.slice (some ⟨b, off, none⟩) a.outs.length cap0, .slice a1 a.ends.length cap1, .slice a2 a.boxes.length cap2] 30)) W2 := hAr.trans (hw2.mono hsr)
      have hzw : w.heap.size + 1 ≤ W2.heap.size := Nat.le_trans hsr hw2.size
      rw [hW2] at HI1 HI2 HW hn0 hd1 hn1 hA2 hz2 hzw
      generalize ht1 : bx (Lib.itoa x.tag) = t1 at *
      generalize ht2 : bx (Lib.itoa x.num) = t2 at *
      have z1 : t1.size ≤ 20 := by rw [← ht1, bx_size]; exact hg1
      have z2 : t2.size ≤ 20 := by rw [← ht2, bx_size]; exact hg2
      have q1 : ¬ 9223372036854775807 < 1 + t1.size := by omega
      have q2 : ¬ 9223372036854775807 < 1 + t1.size + 1 := by omega
      have q3 : ¬ 9223372036854775807 < 1 + t1.size + 1 + t2.size := by omega
      clear ht1 ht2 hg1 hg2 HP hw2 hwr z1 z2 b0 b1 b2 c0 c1 c2
      go_wp2_with fail
      go_region_held3 (fun w' => w'.cell? ⟨wr.heap.size, 0, none⟩ = some (.int .i64 x.tag) ∧ w'.cell? ⟨wr.heap.size, 1, none⟩ = some (.int .i64 x.num))
        (first | exact HS.out _ hn5 | exact HS.out _ hn4 | exact HS.out _ hn3 | exact HS.out _ hn1)
        (first
          | (go_at_call_of 15 x.tag; refine (HI1 _ hd1).mono ?_; rintro e w3 ⟨rfl, hb3⟩; have hd3 := an_next hd1 hb3; have hn3 := (hd3.block _ hz2).trans hn0)
          | (go_at_call_of 15 x.num; refine (HI2 _ hd3).mono ?_; rintro e w4 ⟨rfl, hb4⟩; have hd4 := an_next hd3 hb4; have hn4 := (hd4.block _ hz2).trans hn0)
          | (go_at_call 14; refine (HW _ hd4).mono ?_; rintro e w5 ⟨⟨n5, rfl⟩, hB5, hb5, ho5⟩; have hn5 := ho5 _ _ hn4 (by simp; omega) (by intro c fz e; cases e); have hA5 := (hA2.trans (hd4.mono hzw)).trans hb5))
      go_wp2_with fail
      go_roundg (a.outs.length - (k + 1))
      case measure => omega
      case rel => exact ⟨k + 1, by omega, by go_num, by rw [hTK, ← List.append_assoc]; exact hB5, hA5⟩
    · obtain rfl : k = a.outs.length := by omega
      rw [List.take_length] at hBr
      have hki : ¬ (a.outs.length : Int) < (a.outs.length : Int) := by omega
      have HWx := fun w' h => bld_write w' _ _ _ endsB (h : Bld w' (w.heap.size + 1) (w.heap.size + 1) (outsB ++ a.outs.flatMap toldT)) (by rw [List.length_append]; have : outsB.length = 4 := rfl; have : endsB.length = 5 := rfl; omega)
      go_upto_region 9 with (go_at_call 14; refine (HWx _ hBr hsr).mono ?_; rintro e w1 ⟨⟨n1, rfl⟩, hB1, hb1, _⟩; have hA1 := hAr.trans hb1)
      clear hBr hAr hb1 HWx
      obtain ⟨x0, x1, x2⟩ := an_box hA1
      go_wp2_with fail
      clear x0 x1 x2
      go_loopg [33] a.ends.length (fun g i wr => ∃ k : Nat, k + g = a.ends.length ∧ i = .int .i64 (k : Int) ∧ Bld wr (w.heap.size + 1) (w.heap.size + 1) ((outsB ++ a.outs.flatMap toldT ++ endsB) ++ (a.ends.take k).flatMap intT) ∧ Below (w.heap.size + 1) (w.alloc (.cells #[.slice a0 a.outs.length cap0, .slice a1 a.ends.length cap1, .slice a2 a.boxes.length cap2] 30)) wr)
      case atStart => exact ⟨0, by omega, rfl, by simpa using hB1, hA1⟩
      case round =>
        clear hB1 hA1
        obtain ⟨k, hk, rfl, hBr, hAr⟩ := hrel
        have hzb := bld_lt hBr
        have hsr : w.heap.size + 1 ≤ wr.heap.size := by omega
        by_cases hlt : k < a.ends.length
        · obtain ⟨b, off, hS, rfl, hr⟩ := v1.at k hlt
          have hwr := an_below hAr
          have d0 := Int.one (rw_same (hwr.block b hS) hr)
          rw [Nat.mul_one] at d0
          clear hr
          have hki : (k : Int) < (a.ends.length : Int) := by omega
          have hx := ha.e _ (List.getElem_mem hlt)
          have hbk := b1 k
          have hTK := take_flat (f := intT) a.ends k hlt
          generalize a.ends[k] = x at d0 hx hTK
          have hg1 := itoa_len x hx
          have hgi := int_len hx
          have HI1 : ∀ w', Below w.heap.size w w' → Calls Tryd.prog 15 #[.int .i64 x] w' fun e w2 => e = .returned (.string (bx (Lib.itoa x))) ∧ Below w'.heap.size w' w2 := fun w' h => impl_Itoa x hx.1 hx.2 w' (hT.keep h)
          have HW : ∀ w', Bld w' (w.heap.size + 1) (w.heap.size + 1) ((outsB ++ a.outs.flatMap toldT ++ endsB) ++ (a.ends.take k).flatMap intT) → Calls Tryd.prog 14 #[.pointer (some ⟨w.heap.size + 1, 0, none⟩), .string ((⟨#[32]⟩ : ByteArray) ++ bx (Lib.itoa x))] w' fun e w2 => (∃ n, e = .returned (.tuple #[.int .i64 n, .nilIface])) ∧ Bld w2 (w.heap.size + 1) (w.heap.size + 1) ((outsB ++ a.outs.flatMap toldT ++ endsB) ++ (a.ends.take k).flatMap intT ++ intT x) ∧ Below (w.heap.size + 1) w' w2 ∧ Oth (w.heap.size + 1) w' w2 := fun w' h => by
            rw [int_bytes]
            have e0 : outsB.length = 4 := rfl
            have e1 : endsB.length = 5 := rfl
            have e2 : leftB.length = 5 := rfl
            exact bld_write w' _ _ _ _ h (by simp only [List.length_append]; omega) (by have := bld_lt h; omega)
          generalize ht1 : bx (Lib.itoa x) = t1 at *
          have z1 : t1.size ≤ 20 := by rw [← ht1, bx_size]; exact hg1
          have q1 : ¬ 9223372036854775807 < 1 + t1.size := by omega
          clear ht1 hg1 z1 b0 b1 b2 c0 c1 c2
          go_wp2_with (first
            | (go_at_call 15; refine (HI1 _ hwr).mono ?_; rintro e w3 ⟨rfl, hb3⟩; have hB3 := bld_keep hBr hb3)
            | (go_at_call 14; refine (HW _ hB3).mono ?_; rintro e w5 ⟨⟨n5, rfl⟩, hB5, hb5, _⟩; have hA5 := (hAr.trans (hb3.mono hsr)).trans hb5))
          go_roundg (a.ends.length - (k + 1))
          case measure => omega
          case rel => exact ⟨k + 1, by omega, by go_num, by rw [hTK, ← List.append_assoc]; exact hB5, hA5⟩
        · obtain rfl : k = a.ends.length := by omega
          rw [List.take_length] at hBr
          have hki : ¬ (a.ends.length : Int) < (a.ends.length : Int) := by omega
          have HWx := fun w' h => bld_write w' _ _ _ leftB (h : Bld w' (w.heap.size + 1) (w.heap.size + 1) ((outsB ++ a.outs.flatMap toldT ++ endsB) ++ a.ends.flatMap intT)) (by have e0 : outsB.length = 4 := rfl; have e1 : endsB.length = 5 := rfl; have e2 : leftB.length = 5 := rfl; simp only [List.length_append]; omega)
          go_upto_region 15 with (go_at_call 14; refine (HWx _ hBr hsr).mono ?_; rintro e w1 ⟨⟨n1, rfl⟩, hB1, hb1, _⟩; have hA1 := hAr.trans hb1)
          clear hBr hAr hb1 HWx
          rename World => wA
          obtain ⟨x0, x1, x2⟩ := an_box hA1
          go_wp2_with fail
          clear x0 x1 x2
          go_loopg [46] a.boxes.length (fun g i wr => ∃ k : Nat, k + g = a.boxes.length ∧ i = .int .i64 (k : Int) ∧ Bld wr (w.heap.size + 1) (w.heap.size + 1) ((outsB ++ a.outs.flatMap toldT ++ endsB ++ a.ends.flatMap intT ++ leftB) ++ (a.boxes.take k).flatMap intT) ∧ Below (w.heap.size + 1) (w.alloc (.cells #[.slice a0 a.outs.length cap0, .slice a1 a.ends.length cap1, .slice a2 a.boxes.length cap2] 30)) wr)
          case atStart => exact ⟨0, by omega, rfl, by simpa using hB1, hA1⟩
          case round =>
            clear hB1 hA1
            obtain ⟨k, hk, rfl, hBr, hAr⟩ := hrel
            have hzb := bld_lt hBr
            have hsr : w.heap.size + 1 ≤ wr.heap.size := by omega
            by_cases hlt : k < a.boxes.length
            · obtain ⟨b, off, hS, rfl, hr⟩ := v2.at k hlt
              have hwr := an_below hAr
              have d0 := Int.one (rw_same (hwr.block b hS) hr)
              rw [Nat.mul_one] at d0
              clear hr
              have hki : (k : Int) < (a.boxes.length : Int) := by omega
              have hx := ha.b _ (List.getElem_mem hlt)
              have hbk := b2 k
              have hTK := take_flat (f := intT) a.boxes k hlt
              generalize a.boxes[k] = x at d0 hx hTK
              have hg1 := itoa_len x hx
              have hgi := int_len hx
              have HI1 : ∀ w', Below w.heap.size w w' → Calls Tryd.prog 15 #[.int .i64 x] w' fun e w2 => e = .returned (.string (bx (Lib.itoa x))) ∧ Below w'.heap.size w' w2 := fun w' h => impl_Itoa x hx.1 hx.2 w' (hT.keep h)
              have HW : ∀ w', Bld w' (w.heap.size + 1) (w.heap.size + 1) ((outsB ++ a.outs.flatMap toldT ++ endsB ++ a.ends.flatMap intT ++ leftB) ++ (a.boxes.take k).flatMap intT) → Calls Tryd.prog 14 #[.pointer (some ⟨w.heap.size + 1, 0, none⟩), .string ((⟨#[32]⟩ : ByteArray) ++ bx (Lib.itoa x))] w' fun e w2 => (∃ n, e = .returned (.tuple #[.int .i64 n, .nilIface])) ∧ Bld w2 (w.heap.size + 1) (w.heap.size + 1) ((outsB ++ a.outs.flatMap toldT ++ endsB ++ a.ends.flatMap intT ++ leftB) ++ (a.boxes.take k).flatMap intT ++ intT x) ∧ Below (w.heap.size + 1) w' w2 ∧ Oth (w.heap.size + 1) w' w2 := fun w' h => by
                rw [int_bytes]
                have e0 : outsB.length = 4 := rfl
                have e1 : endsB.length = 5 := rfl
                have e2 : leftB.length = 5 := rfl
                exact bld_write w' _ _ _ _ h (by simp only [List.length_append]; omega) (by have := bld_lt h; omega)
              generalize ht1 : bx (Lib.itoa x) = t1 at *
              have z1 : t1.size ≤ 20 := by rw [← ht1, bx_size]; exact hg1
              have q1 : ¬ 9223372036854775807 < 1 + t1.size := by omega
              clear ht1 hg1 z1 b0 b1 b2 c0 c1 c2
              go_wp2_with (first
                | (go_at_call 15; refine (HI1 _ hwr).mono ?_; rintro e w3 ⟨rfl, hb3⟩; have hB3 := bld_keep hBr hb3)
                | (go_at_call 14; refine (HW _ hB3).mono ?_; rintro e w5 ⟨⟨n5, rfl⟩, hB5, hb5, _⟩; have hA5 := (hAr.trans (hb3.mono hsr)).trans hb5))
              go_roundg (a.boxes.length - (k + 1))
              case measure => omega
              case rel => exact ⟨k + 1, by omega, by go_num, by rw [hTK, ← List.append_assoc]; exact hB5, hA5⟩
            · obtain rfl : k = a.boxes.length := by omega
              rw [List.take_length] at hBr
              have hki : ¬ (a.boxes.length : Int) < (a.boxes.length : Int) := by omega
              have HWx := fun w' h => bld_write w' _ _ _ [10] (h : Bld w' (w.heap.size + 1) (w.heap.size + 1) ((outsB ++ a.outs.flatMap toldT ++ endsB ++ a.ends.flatMap intT ++ leftB) ++ a.boxes.flatMap intT)) (by have e0 : outsB.length = 4 := rfl; have e1 : endsB.length = 5 := rfl; have e2 : leftB.length = 5 := rfl; simp only [List.length_append, List.length_cons, List.length_nil]; omega)
              go_wp2_with (first
                | (go_at_call 14; refine (HWx _ hBr hsr).mono ?_; rintro e w1 ⟨⟨n1, rfl⟩, hB1, hb1, _⟩; have hA1 := hAr.trans hb1)
                | (go_at_call 16; refine (bld_text _ _ _ _ hB1 (by have := bld_lt hB1; omega)).mono ?_; rintro e w2 ⟨rfl, hb2⟩))
              go_ret
              have HZ : outsB ++ (a.outs.flatMap toldT ++ (endsB ++ (a.ends.flatMap intT ++ (leftB ++ (a.boxes.flatMap intT ++ [10]))))) = ansT a := by simp [ansT]
              exact ⟨congrArg (fun l => Ending.returned (.string (bx l))) HZ, an_below (hA1.trans hb2)⟩
end Go.Proofs.YtnmmhicgodfpcaaDoor
