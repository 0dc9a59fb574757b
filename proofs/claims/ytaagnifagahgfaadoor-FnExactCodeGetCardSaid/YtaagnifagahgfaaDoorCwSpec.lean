/-
  CodePut: the program's, and the specification's l6Words, l6Has, l6Put.
-/
import Derived.Test.YtaagnifagahgfaaDoorCwImpl
import Derived.Test.YtaagnifagahgfaaDoorCkOk
import Derived.Deep.QuietTactic
import Derived.BigQuiet
namespace Go.Proofs.YtaagnifagahgfaaDoor
open Go.RowKit


set_option maxHeartbeats 1000000 in
theorem spec_l6Words (w : World) : Calls Tryd.prog 11 #[] w fun r w' => r = .returned (.slice (some ⟨w.heap.size, 0, none⟩) 25 25) ∧ w' = w.alloc (.cells codeVals0 9) := by
  go_enter Tryd.func11, Tryd.ntmps11
  go_wp2_with fail
  go_ret
  exact ⟨rfl, rfl⟩
set_option maxHeartbeats 4000000 in
theorem spec_l6Has (k : Int) (hk : 1 ≤ k ∧ k ≤ 24) (w : World) : Calls Tryd.prog 12 #[.int .i64 k] w fun r w' => r = .returned (.bool (hasM k)) ∧ w = w' := by
  rcases code_cases k hk with (rfl | rfl | rfl | rfl | rfl | rfl | rfl | rfl | rfl | rfl | rfl | rfl | rfl | rfl | rfl | rfl | rfl | rfl | rfl | rfl | rfl | rfl | rfl | rfl)
  all_goals
    go_enter Tryd.func12, Tryd.ntmps12
    go_wp2_with fail
    go_ret
    exact ⟨rfl, rfl⟩
theorem put_word (l : List UInt8) (k : Int) : bx l ++ bx (codeB k) = bx (l ++ codeB k) := bx_app _ _
theorem put_num (l : List UInt8) (n : Int) : bx l ++ (⟨#[32]⟩ : ByteArray) ++ bx (Lib.itoa n) = bx (l ++ ([32] ++ Lib.itoa n)) := by
  show bx _ ++ bx [32] ++ bx _ = _
  rw [bx_app, bx_app, List.append_assoc]
theorem put_end (l : List UInt8) : bx l ++ (⟨#[10]⟩ : ByteArray) = bx (l ++ [10]) := bx_app l [10]

set_option maxRecDepth 100000 in
set_option maxHeartbeats 8000000 in
theorem spec_l6Put (ops : List Wd) (hl : ops.length ≤ 200) (hf : ∀ x ∈ ops, OpFine x) (w : World) (v : Value) (hv : Words w (· < w.heap.size) ops v) :
    Calls Tryd.prog 15 #[v] w fun r w' => r = .returned (.string (bx (codeT ops))) ∧ Below w.heap.size w w' := by
  obtain ⟨a, cap, rfl⟩ := hv.slice
  have hV : Hid (Words w (· < w.heap.size) ops (.slice a ops.length cap)) := hv
  have hlen := fun k => take_ops_len ops k hf
  clear hv
  go_enter Tryd.func15, Tryd.ntmps15
  go_wp2_with fail
  go_loopg [3, 4] ops.length (fun g s i wr => ∃ k : Nat, k + g = ops.length ∧ s = .string (bx ((ops.take k).flatMap opT)) ∧ i = .int .i64 (k : Int) ∧ Below w.heap.size w wr)
  case atStart => exact ⟨0, by omega, rfl, rfl, Below.refl _ _⟩
  case round =>
    obtain ⟨k, hk, rfl, rfl, hAr⟩ := hrel
    by_cases hlt : k < ops.length
    · obtain ⟨b, off, hS, rfl, hr⟩ := hV.out.at k hlt
      obtain ⟨d0, d1⟩ := Wd.two (rw_same (hAr.block b hS) hr)
      clear hr
      have hki : (k : Int) < (ops.length : Int) := by omega
      have hx := hf _ (List.getElem_mem hlt)
      have hbk := hlen k
      have hTK := take_ops ops k hlt
      generalize ops[k] = op at d0 d1 hx hTK
      obtain ⟨tg, nm⟩ := op
      obtain ⟨hx1, hx2⟩ := hx
      have hx2 : In64 nm := hx2
      obtain ⟨kn, hkn⟩ : ∃ kn : Nat, tg = (kn : Int) := ⟨tg.toNat, by have : 1 ≤ tg := hx1.1; omega⟩
      have hk1 : 1 ≤ kn := by have : 1 ≤ tg := hx1.1; omega
      have hk25 : kn < 25 := by have : tg ≤ 24 := hx1.2; omega
      have hkt := code_tab0 hk1 hk25
      rw [← hkn] at hkt
      have hil := itoa_len nm hx2
      have hcl := codeB_len tg
      have hbw : b < wr.heap.size := by have := hAr.size; omega
      generalize hs0 : (ops.take k).flatMap opT = s0 at *
      have hD : ∀ w', Calls Tryd.prog 26 #[.int .i64 nm] w' fun e w2 => e = .returned (.string (bx (Lib.itoa nm))) ∧ Below w'.heap.size w' w2 := fun w' => dec_all nm hx2 w'
      have hH : ∀ w', Calls Tryd.prog 12 #[.int .i64 tg] w' fun r w2 => r = .returned (.bool (hasM tg)) ∧ w' = w2 := fun w' => spec_l6Has tg hx1 w'
      have hT0 : ∀ (w' : World), (w'.alloc (.cells codeVals0 9)).cell? ⟨w'.heap.size, kn, none⟩ = some (.string (bx (codeB tg))) := fun w' => by
        rw [cell_of_row _ _ _ _ _ _ (heap_alloc_new w' _)]
        exact hkt
      have wr2 : IntKind.i64.wrap ((k : Int) + 1) = (k : Int) + 1 := ck_wr _ (by omega) (by omega)
      have hki25 : (kn : Int) < 25 := by omega
      have hTy : hasM tg = true → Hid (bx s0 ++ bx (codeB tg) ++ (⟨#[32]⟩ : ByteArray) ++ bx (Lib.itoa nm) ++ ⟨#[10]⟩ = bx ((ops.take (k + 1)).flatMap opT)) := fun h => by
        show _ = bx _
        rw [put_word, put_num, put_end, hTK, opT, numT, if_pos h]
        simp
      have hTn : hasM tg = false → Hid (bx s0 ++ bx (codeB tg) ++ (⟨#[10]⟩ : ByteArray) = bx ((ops.take (k + 1)).flatMap opT)) := fun h => by
        show _ = bx _
        have hne : ¬ hasM tg = true := by rw [h]; simp
        rw [put_word, put_end, hTK, opT]
        show _ = bx (s0 ++ (codeB tg ++ numT ⟨tg, nm⟩ ++ [10]))
        have e : numT ⟨tg, nm⟩ = [] := if_neg hne
        rw [e]
        simp
      have hd0 : Below wr.heap.size wr wr.drew := (Below.refl _ _).drew
      have HS : Hid (∀ w', Below wr.heap.size wr w' → w'.cell? ⟨b, off + k * 2, none⟩ = some (.int .i64 tg) ∧ w'.cell? ⟨b, off + k * 2 + 1, none⟩ = some (.int .i64 nm)) := fun w' h => ⟨by rw [h.cell (p := ⟨b, off + k * 2, none⟩) hbw]; exact d0, by rw [h.cell (p := ⟨b, off + k * 2 + 1, none⟩) hbw]; exact d1⟩
      have HK : Calls Tryd.prog 11 #[] wr.drew fun r w3 => r = .returned (.slice (some ⟨wr.heap.size, 0, none⟩) 25 25) ∧ Below wr.heap.size wr w3 ∧ w3.cell? ⟨wr.heap.size, kn, none⟩ = some (.string (bx (codeB tg))) := (spec_l6Words wr.drew).mono (by
        rintro e w3 ⟨rfl, rfl⟩
        exact ⟨rfl, hd0.alloc hd0.size _, hT0 wr.drew⟩)
      have zs : (bx s0).size ≤ 42 * ops.length := by rw [bx_size]; exact hbk
      have zc : (bx (codeB tg)).size ≤ 5 := by rw [bx_size]; exact hcl
      have zn : (bx (Lib.itoa nm)).size ≤ 20 := by rw [bx_size]; exact hil
      generalize bx s0 = t0 at *
      generalize bx (codeB tg) = tc at *
      generalize bx (Lib.itoa nm) = tn at *
      have q1 : ¬ 9223372036854775807 < t0.size + tc.size := by omega
      have q2 : ¬ 9223372036854775807 < t0.size + tc.size + 1 := by omega
      have q3 : ¬ 9223372036854775807 < t0.size + tc.size + 1 + tn.size := by omega
      have q4 : ¬ 9223372036854775807 < t0.size + tc.size + 1 + tn.size + 1 := by omega
      rw [hkn] at d0 HS
      have d0 : wr.cell? ⟨b, off + k * 2, none⟩ = some (.int .i64 (kn : Int)) := d0
      have d1 : wr.cell? ⟨b, off + k * 2 + 1, none⟩ = some (.int .i64 nm) := d1
      rw [show hasM tg = hasM (kn : Int) by rw [hkn]] at hTy hTn
      have hH : ∀ w', Calls Tryd.prog 12 #[.int .i64 (kn : Int)] w' fun r w2 => r = .returned (.bool (hasM (kn : Int))) ∧ w' = w2 := fun w' => by rw [← hkn]; exact hH w'
      clear hT0 hkt zs zc zn hbk hcl hil hTK hx1 hx2 hkn
      go_wp2_with fail
      go_region_with (first | (go_at_call 11; refine HK.mono ?_; rintro e w3 ⟨rfl, hd3, hk3⟩; (obtain ⟨y0, y1⟩ := HS.out _ hd3)))
      all_goals
        go_wp2_with fail
        clear hk3 HK hd0
        cases hh : hasM (kn : Int)
        · rw [hh] at hH
          have HT := hTn hh
          clear hTy hTn hh hD q3 q4
          go_wp2_with (go_at_call 12; refine (hH _).mono ?_; rintro e w4 ⟨rfl, rfl⟩)
          go_roundg (ops.length - (k + 1))
          case measure => omega
          case rel => exact ⟨k + 1, by omega, by rw [HT.out], by go_num, hAr.trans (hd3.mono hAr.size)⟩
        · rw [hh] at hH
          have HT := hTy hh
          clear hTy hTn hh
          go_wp2_with (first
            | (go_at_call 12; refine (hH _).mono ?_; rintro e w4 ⟨rfl, rfl⟩)
            | (go_at_call 26; refine (hD _).mono ?_; rintro e w5 ⟨rfl, hb5⟩))
          go_roundg (ops.length - (k + 1))
          case measure => omega
          case rel => exact ⟨k + 1, by omega, by rw [HT.out], by go_num, cw_next (hAr.trans (hd3.mono hAr.size)) hb5⟩
    · obtain rfl : k = ops.length := by omega
      have hki : ¬ (ops.length : Int) < (ops.length : Int) := by omega
      rw [List.take_length]
      go_wp2_with fail
      go_ret
      exact ⟨rfl, hAr⟩
end Go.Proofs.YtaagnifagahgfaaDoor

