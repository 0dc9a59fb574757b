/-
  The specification's AnswerPut.
-/
import Derived.Test.YtnmmhicgodfpcaaDoorAnImpl
namespace Go.Proofs.YtnmmhicgodfpcaaDoor
open Go.RowKit

theorem told_bytes2 (l : List UInt8) (x : Wd) : bx l ++ (⟨#[32]⟩ : ByteArray) ++ bx (Lib.itoa x.tag) ++ ⟨#[58]⟩ ++ bx (Lib.itoa x.num) = bx (l ++ toldT x) := by
  show bx _ ++ bx [32] ++ bx _ ++ bx [58] ++ bx _ = _
  rw [bx_app, bx_app, bx_app, bx_app]
  simp [toldT]
theorem int_bytes2 (l : List UInt8) (n : Int) : bx l ++ (⟨#[32]⟩ : ByteArray) ++ bx (Lib.itoa n) = bx (l ++ intT n) := by
  show bx _ ++ bx [32] ++ bx _ = _
  rw [bx_app, bx_app]
  simp [intT]
theorem lit_bytes (l m : List UInt8) : bx l ++ (⟨m.toArray⟩ : ByteArray) = bx (l ++ m) := bx_app l m

set_option maxRecDepth 100000 in
set_option maxHeartbeats 4000000 in
theorem spec_l13Answer (a : An) (ha : a.Ok) (hl : a.outs.length + a.ends.length + a.boxes.length ≤ 1048576) (w : World) (s0 s1 s2 : Value) (hv : AnAt w (· < w.heap.size) a s0 s1 s2) :
    Calls Tryd.prog 11 #[.agg #[s0, s1, s2]] w fun r w' => r = .returned (.string (bx (ansT a))) ∧ Below w.heap.size w w' := by
  obtain ⟨v0, v1, v2⟩ := hv
  obtain ⟨a0, cap0, rfl⟩ := v0.slice
  obtain ⟨a1, cap1, rfl⟩ := v1.slice
  obtain ⟨a2, cap2, rfl⟩ := v2.slice
  have b0 := fun k => take_len (f := toldT) a.outs k (fun x hx => told_len (ha.o x hx))
  have b1 := fun k => take_len (f := intT) a.ends k (fun x hx => int_len (ha.e x hx))
  have b2 := fun k => take_len (f := intT) a.boxes k (fun x hx => int_len (ha.b x hx))
  have c0 := flat_len (f := toldT) a.outs (fun x hx => told_len (ha.o x hx))
  have c1 := flat_len (f := intT) a.ends (fun x hx => int_len (ha.e x hx))
  have c2 := flat_len (f := intT) a.boxes (fun x hx => int_len (ha.b x hx))
  have hR : Below (w.heap.size + 1) (w.alloc (.cells #[.slice a0 a.outs.length cap0, .slice a1 a.ends.length cap1, .slice a2 a.boxes.length cap2] 30)) (w.alloc (.cells #[.slice a0 a.outs.length cap0, .slice a1 a.ends.length cap1, .slice a2 a.boxes.length cap2] 30)) := Below.refl _ _
  go_enter Tryd.func11, Tryd.ntmps11
  go_wp2_with fail
  go_loopg [3, 4] a.outs.length (fun g s i wr => ∃ k : Nat, k + g = a.outs.length ∧ s = .string (bx (outsB ++ (a.outs.take k).flatMap toldT)) ∧ i = .int .i64 (k : Int) ∧ Below (w.heap.size + 1) (w.alloc (.cells #[.slice a0 a.outs.length cap0, .slice a1 a.ends.length cap1, .slice a2 a.boxes.length cap2] 30)) wr)
  case atStart => exact ⟨0, by omega, rfl, rfl, hR⟩
  case round =>
    clear hR
    obtain ⟨k, hk, rfl, rfl, hAr⟩ := hrel
    obtain ⟨x0, x1, x2⟩ := an_box hAr
    by_cases hlt : k < a.outs.length
    · obtain ⟨b, off, hS, rfl, hr⟩ := v0.at k hlt
      have hwr := an_below hAr
      obtain ⟨d0, d1⟩ := Wd.two (rw_same (hwr.block b hS) hr)
      have hki : (k : Int) < (a.outs.length : Int) := by omega
      have hx := ha.o _ (List.getElem_mem hlt)
      have hbk := b0 k
      have hTK := take_flat (f := toldT) a.outs k hlt
      have hxw : w.heap.size < wr.heap.size := by have := hAr.size; simp at this; omega
      generalize a.outs[k] = x at d0 d1 hx hTK
      have hg1 := itoa_len x.tag hx.1
      have hg2 := itoa_len x.num hx.2
      have HI1 : ∀ w', Calls Tryd.prog 19 #[.int .i64 x.tag] w' fun e w2 => e = .returned (.string (bx (Lib.itoa x.tag))) ∧ Below w'.heap.size w' w2 := fun w' => dec_all x.tag hx.1 w'
      have HI2 : ∀ w', Calls Tryd.prog 19 #[.int .i64 x.num] w' fun e w2 => e = .returned (.string (bx (Lib.itoa x.num))) ∧ Below w'.heap.size w' w2 := fun w' => dec_all x.num hx.2 w'
      have hd0 : Below wr.heap.size wr wr.drew := (Below.refl _ _).drew
      have HS : Hid (∀ w' : World, Below wr.heap.size wr w' → w'.cell? ⟨w.heap.size, 0, none⟩ = some (.slice (some ⟨b, off, none⟩) a.outs.length cap0) ∧ w'.cell? ⟨b, off + k * 2, none⟩ = some (.int .i64 x.tag) ∧ w'.cell? ⟨b, off + k * 2 + 1, none⟩ = some (.int .i64 x.num)) := fun w' h => by
        have hbw : b < wr.heap.size := by omega
        exact ⟨by rw [h.cell (p := ⟨w.heap.size, 0, none⟩) hxw]; exact x0, by rw [h.cell (p := ⟨b, off + k * 2, none⟩) hbw]; exact d0, by rw [h.cell (p := ⟨b, off + k * 2 + 1, none⟩) hbw]; exact d1⟩
      have HT : Hid (bx (outsB ++ (a.outs.take k).flatMap toldT) ++ (⟨#[32]⟩ : ByteArray) ++ bx (Lib.itoa x.tag) ++ ⟨#[58]⟩ ++ bx (Lib.itoa x.num) = bx (outsB ++ (a.outs.take (k + 1)).flatMap toldT)) := by
        show _ = _
        rw [told_bytes2, hTK, List.append_assoc]
      have z0 : (bx (outsB ++ (a.outs.take k).flatMap toldT)).size ≤ 100000000 := by rw [bx_size, List.length_append]; have : outsB.length = 4 := rfl; omega
      generalize ht0 : bx (outsB ++ (a.outs.take k).flatMap toldT) = t0 at *
      generalize ht1 : bx (Lib.itoa x.tag) = t1 at *
      generalize ht2 : bx (Lib.itoa x.num) = t2 at *
      have z1 : t1.size ≤ 20 := by rw [← ht1, bx_size]; exact hg1
      have z2 : t2.size ≤ 20 := by rw [← ht2, bx_size]; exact hg2
      have q0 : ¬ 9223372036854775807 < t0.size + 1 := by omega
      have q1 : ¬ 9223372036854775807 < t0.size + 1 + t1.size := by omega
      have q2 : ¬ 9223372036854775807 < t0.size + 1 + t1.size + 1 := by omega
      have q3 : ¬ 9223372036854775807 < t0.size + 1 + t1.size + 1 + t2.size := by omega
      clear ht0 ht1 ht2 hg1 hg2 hwr z0 z1 z2 b0 b1 b2 c0 c1 c2 hTK hr x1 x2 hbk
      go_wp2_with fail
      go_region_held3 (fun w' => w'.cell? ⟨w.heap.size, 0, none⟩ = some (.slice (some ⟨b, off, none⟩) a.outs.length cap0) ∧ w'.cell? ⟨b, off + k * 2, none⟩ = some (.int .i64 x.tag) ∧ w'.cell? ⟨b, off + k * 2 + 1, none⟩ = some (.int .i64 x.num))
        (first | exact HS.out _ hd4 | exact HS.out _ hd3 | exact HS.out _ hd0)
        (first
          | (go_at_call_of 19 x.tag; refine (HI1 _).mono ?_; rintro e w3 ⟨rfl, hb3⟩; have hd3 := an_next hd0 hb3)
          | (go_at_call_of 19 x.num; refine (HI2 _).mono ?_; rintro e w4 ⟨rfl, hb4⟩; have hd4 := an_next hd3 hb4))
      go_wp2_with fail
      go_roundg (a.outs.length - (k + 1))
      case measure => omega
      case rel => exact ⟨k + 1, by omega, congrArg Value.string HT.out, by go_num, hAr.trans (hd4.mono (by omega))⟩
    · obtain rfl : k = a.outs.length := by omega
      rw [List.take_length]
      have hki : ¬ (a.outs.length : Int) < (a.outs.length : Int) := by omega
      have zL : (bx (outsB ++ a.outs.flatMap toldT)).size ≤ 100000000 := by
        rw [bx_size]
        have e0 : outsB.length = 4 := rfl
        have e1 : endsB.length = 5 := rfl
        have e2 : leftB.length = 5 := rfl
        simp only [List.length_append]
        omega
      have HL : Hid (bx (outsB ++ a.outs.flatMap toldT) ++ (⟨#[10, 101, 110, 100, 115]⟩ : ByteArray) = bx (outsB ++ (a.outs.flatMap toldT ++ endsB))) := by show bx _ ++ (⟨endsB.toArray⟩ : ByteArray) = _; rw [lit_bytes]; simp only [List.append_assoc]
      generalize bx (outsB ++ a.outs.flatMap toldT) = tL at zL HL
      have qL : ¬ 9223372036854775807 < tL.size + 5 := by omega
      rename World => wA
      go_wp2_with fail
      rw [HL.out]
      go_loopg [3, 5] a.ends.length (fun g s i wr => ∃ k : Nat, k + g = a.ends.length ∧ s = .string (bx ((outsB ++ (a.outs.flatMap toldT ++ endsB)) ++ (a.ends.take k).flatMap intT)) ∧ i = .int .i64 (k : Int) ∧ Below (w.heap.size + 1) (w.alloc (.cells #[.slice a0 a.outs.length cap0, .slice a1 a.ends.length cap1, .slice a2 a.boxes.length cap2] 30)) wr)
      case atStart => exact ⟨0, by omega, by simp, rfl, hAr⟩
      case round =>
        clear hAr x0 x1 x2 zL HL qL
        obtain ⟨k, hk, rfl, rfl, hAr⟩ := hrel
        obtain ⟨x0, x1, x2⟩ := an_box hAr
        by_cases hlt : k < a.ends.length
        · obtain ⟨b, off, hS, rfl, hr⟩ := v1.at k hlt
          have hwr := an_below hAr
          have d0 := Int.one (rw_same (hwr.block b hS) hr)
          rw [Nat.mul_one] at d0
          have hki : (k : Int) < (a.ends.length : Int) := by omega
          have hx := ha.e _ (List.getElem_mem hlt)
          have hbk := b1 k
          have hTK := take_flat (f := intT) a.ends k hlt
          have hxw : w.heap.size < wr.heap.size := by have := hAr.size; simp at this; omega
          generalize a.ends[k] = x at d0 hx hTK
          have hg1 := itoa_len x hx
          have HI1 : ∀ w', Calls Tryd.prog 19 #[.int .i64 x] w' fun e w2 => e = .returned (.string (bx (Lib.itoa x))) ∧ Below w'.heap.size w' w2 := fun w' => dec_all x hx w'
          have HT : Hid (bx ((outsB ++ (a.outs.flatMap toldT ++ endsB)) ++ (a.ends.take k).flatMap intT) ++ (⟨#[32]⟩ : ByteArray) ++ bx (Lib.itoa x) = bx ((outsB ++ (a.outs.flatMap toldT ++ endsB)) ++ (a.ends.take (k + 1)).flatMap intT)) := by
            show _ = _
            rw [int_bytes2, hTK, List.append_assoc]
          have z0 : (bx ((outsB ++ (a.outs.flatMap toldT ++ endsB)) ++ (a.ends.take k).flatMap intT)).size ≤ 100000000 := by
            rw [bx_size]
            have e0 : outsB.length = 4 := rfl
            have e1 : endsB.length = 5 := rfl
            have e2 : leftB.length = 5 := rfl
            simp only [List.length_append]
            omega
          generalize ht0 : bx ((outsB ++ (a.outs.flatMap toldT ++ endsB)) ++ (a.ends.take k).flatMap intT) = t0 at *
          generalize ht1 : bx (Lib.itoa x) = t1 at *
          have z1 : t1.size ≤ 20 := by rw [← ht1, bx_size]; exact hg1
          have q0 : ¬ 9223372036854775807 < t0.size + 1 := by omega
          have q1 : ¬ 9223372036854775807 < t0.size + 1 + t1.size := by omega
          clear ht0 ht1 hg1 hwr z0 z1 b0 b1 b2 c0 c1 c2 hTK hr hbk
          go_wp2_with (go_at_call 19; refine (HI1 _).mono ?_; rintro e w3 ⟨rfl, hb3⟩)
          go_roundg (a.ends.length - (k + 1))
          case measure => omega
          case rel => exact ⟨k + 1, by omega, congrArg Value.string HT.out, by go_num, hAr.trans (hb3.mono (by omega))⟩
        · obtain rfl : k = a.ends.length := by omega
          rw [List.take_length]
          have hki : ¬ (a.ends.length : Int) < (a.ends.length : Int) := by omega
          have zL : (bx (outsB ++ (a.outs.flatMap toldT ++ endsB) ++ a.ends.flatMap intT)).size ≤ 100000000 := by
            rw [bx_size]
            have e0 : outsB.length = 4 := rfl
            have e1 : endsB.length = 5 := rfl
            have e2 : leftB.length = 5 := rfl
            simp only [List.length_append]
            omega
          have HL : Hid (bx (outsB ++ (a.outs.flatMap toldT ++ endsB) ++ a.ends.flatMap intT) ++ (⟨#[10, 108, 101, 102, 116]⟩ : ByteArray) = bx (outsB ++ (a.outs.flatMap toldT ++ (endsB ++ (a.ends.flatMap intT ++ leftB))))) := by show bx _ ++ (⟨leftB.toArray⟩ : ByteArray) = _; rw [lit_bytes]; simp only [List.append_assoc]
          generalize bx (outsB ++ (a.outs.flatMap toldT ++ endsB) ++ a.ends.flatMap intT) = tL at zL HL
          have qL : ¬ 9223372036854775807 < tL.size + 5 := by omega
          rename World => wA
          go_wp2_with fail
          rw [HL.out]
          go_loopg [3, 6] a.boxes.length (fun g s i wr => ∃ k : Nat, k + g = a.boxes.length ∧ s = .string (bx ((outsB ++ (a.outs.flatMap toldT ++ (endsB ++ (a.ends.flatMap intT ++ leftB)))) ++ (a.boxes.take k).flatMap intT)) ∧ i = .int .i64 (k : Int) ∧ Below (w.heap.size + 1) (w.alloc (.cells #[.slice a0 a.outs.length cap0, .slice a1 a.ends.length cap1, .slice a2 a.boxes.length cap2] 30)) wr)
          case atStart => exact ⟨0, by omega, by simp, rfl, hAr⟩
          case round =>
            clear hAr x0 x1 x2 zL HL qL
            obtain ⟨k, hk, rfl, rfl, hAr⟩ := hrel
            obtain ⟨x0, x1, x2⟩ := an_box hAr
            by_cases hlt : k < a.boxes.length
            · obtain ⟨b, off, hS, rfl, hr⟩ := v2.at k hlt
              have hwr := an_below hAr
              have d0 := Int.one (rw_same (hwr.block b hS) hr)
              rw [Nat.mul_one] at d0
              have hki : (k : Int) < (a.boxes.length : Int) := by omega
              have hx := ha.b _ (List.getElem_mem hlt)
              have hbk := b2 k
              have hTK := take_flat (f := intT) a.boxes k hlt
              have hxw : w.heap.size < wr.heap.size := by have := hAr.size; simp at this; omega
              generalize a.boxes[k] = x at d0 hx hTK
              have hg1 := itoa_len x hx
              have HI1 : ∀ w', Calls Tryd.prog 19 #[.int .i64 x] w' fun e w2 => e = .returned (.string (bx (Lib.itoa x))) ∧ Below w'.heap.size w' w2 := fun w' => dec_all x hx w'
              have HT : Hid (bx ((outsB ++ (a.outs.flatMap toldT ++ (endsB ++ (a.ends.flatMap intT ++ leftB)))) ++ (a.boxes.take k).flatMap intT) ++ (⟨#[32]⟩ : ByteArray) ++ bx (Lib.itoa x) = bx ((outsB ++ (a.outs.flatMap toldT ++ (endsB ++ (a.ends.flatMap intT ++ leftB)))) ++ (a.boxes.take (k + 1)).flatMap intT)) := by
                show _ = _
                rw [int_bytes2, hTK, List.append_assoc]
              have z0 : (bx ((outsB ++ (a.outs.flatMap toldT ++ (endsB ++ (a.ends.flatMap intT ++ leftB)))) ++ (a.boxes.take k).flatMap intT)).size ≤ 100000000 := by
                rw [bx_size]
                have e0 : outsB.length = 4 := rfl
                have e1 : endsB.length = 5 := rfl
                have e2 : leftB.length = 5 := rfl
                simp only [List.length_append]
                omega
              generalize ht0 : bx ((outsB ++ (a.outs.flatMap toldT ++ (endsB ++ (a.ends.flatMap intT ++ leftB)))) ++ (a.boxes.take k).flatMap intT) = t0 at *
              generalize ht1 : bx (Lib.itoa x) = t1 at *
              have z1 : t1.size ≤ 20 := by rw [← ht1, bx_size]; exact hg1
              have q0 : ¬ 9223372036854775807 < t0.size + 1 := by omega
              have q1 : ¬ 9223372036854775807 < t0.size + 1 + t1.size := by omega
              clear ht0 ht1 hg1 hwr z0 z1 b0 b1 b2 c0 c1 c2 hTK hr hbk
              go_wp2_with (go_at_call 19; refine (HI1 _).mono ?_; rintro e w3 ⟨rfl, hb3⟩)
              go_roundg (a.boxes.length - (k + 1))
              case measure => omega
              case rel => exact ⟨k + 1, by omega, congrArg Value.string HT.out, by go_num, hAr.trans (hb3.mono (by omega))⟩
            · obtain rfl : k = a.boxes.length := by omega
              rw [List.take_length]
              have hki : ¬ (a.boxes.length : Int) < (a.boxes.length : Int) := by omega
              have zL : (bx (outsB ++ (a.outs.flatMap toldT ++ (endsB ++ (a.ends.flatMap intT ++ leftB))) ++ a.boxes.flatMap intT)).size ≤ 100000000 := by
                rw [bx_size]
                have e0 : outsB.length = 4 := rfl
                have e1 : endsB.length = 5 := rfl
                have e2 : leftB.length = 5 := rfl
                simp only [List.length_append]
                omega
              have HL : Hid (bx (outsB ++ (a.outs.flatMap toldT ++ (endsB ++ (a.ends.flatMap intT ++ leftB))) ++ a.boxes.flatMap intT) ++ (⟨#[10]⟩ : ByteArray) = bx (ansT a)) := by show bx _ ++ (⟨[(10 : UInt8)].toArray⟩ : ByteArray) = _; rw [lit_bytes]; simp [ansT]
              generalize bx (outsB ++ (a.outs.flatMap toldT ++ (endsB ++ (a.ends.flatMap intT ++ leftB))) ++ a.boxes.flatMap intT) = tL at zL HL
              have qL : ¬ 9223372036854775807 < tL.size + 1 := by omega
              go_wp2_with fail
              go_ret
              exact ⟨congrArg (fun s => Ending.returned (.string s)) HL.out, an_below hAr⟩

theorem spec_AnswerPut (a : An) (ha : a.Ok) (hl : a.outs.length + a.ends.length + a.boxes.length ≤ 1048576) (w : World) (s0 s1 s2 : Value) (hv : AnAt w (· < w.heap.size) a s0 s1 s2) :
    Calls Tryd.prog 5 #[.agg #[s0, s1, s2]] w fun r w' => r = .returned (.string (bx (ansT a))) ∧ Below w.heap.size w w' := by
  have hb : Below w.heap.size w (w.alloc (.cells #[s0, s1, s2] 30)) := (Below.refl _ _).alloc (Nat.le_refl _) _
  have H := spec_l13Answer a ha hl (w.alloc (.cells #[s0, s1, s2] 30)) s0 s1 s2 ⟨hv.o.keep hb hb.size, hv.e.keep hb hb.size, hv.b.keep hb hb.size⟩
  go_enter Tryd.func5, Tryd.ntmps5
  go_wp2_with (go_at_call 11; refine H.mono ?_; rintro e w2 ⟨rfl, hb2⟩)
  go_ret
  exact ⟨rfl, an_next hb hb2⟩
end Go.Proofs.YtnmmhicgodfpcaaDoor
