/-
  The specification's l12Put, WirePut.
-/
import Derived.Test.YthikfinliiaecaaGreatDoorFgAll31
namespace Go.Proofs.YthikfinliiaecaaGreatDoor
open Go.RowKit

theorem line_fun {c : Ce} (l : List UInt8) (h : c.kind = 4 ∨ c.kind = 5) : bx l ++ bx (kindB c.kind) ++ (⟨#[32]⟩ : ByteArray) ++ bx (Lib.itoa c.num) ++ ⟨#[32]⟩ ++ bx (wordT c.b) ++ ⟨#[10]⟩ = bx (l ++ lineT c) := by
  show bx _ ++ bx _ ++ bx [32] ++ bx _ ++ bx [32] ++ bx _ ++ bx [10] = _
  simp only [bx_app]
  rw [lineT, cellB, midT, if_pos h]
  simp
theorem line_word {c : Ce} (l : List UInt8) (h : ¬ (c.kind = 4 ∨ c.kind = 5)) : bx l ++ bx (kindB c.kind) ++ (⟨#[32]⟩ : ByteArray) ++ bx (wordT c.a) ++ ⟨#[32]⟩ ++ bx (wordT c.b) ++ ⟨#[10]⟩ = bx (l ++ lineT c) := by
  show bx _ ++ bx _ ++ bx [32] ++ bx _ ++ bx [32] ++ bx _ ++ bx [10] = _
  simp only [bx_app]
  rw [lineT, cellB, midT, if_neg h]
  simp

set_option maxRecDepth 100000 in
set_option maxHeartbeats 8000000 in
theorem spec_l12Put (C : List Ce) (hl : C.length ≤ 120) (hfine : ∀ c ∈ C, c.Fine) (x : Wd) (hxf : In64 x.num ∧ (x.tag = 2 → x.num = 0 ∨ x.num = 1)) (v : Value) (w : World) (hv : Cells w (· < w.heap.size) C v) :
    Calls Tryz.prog 27 #[v, .agg #[.int .i64 x.tag, .int .i64 x.num]] w fun r w' => r = .returned (.string (bx (wireT C x))) ∧ Below w.heap.size w w' := by
  obtain ⟨ca, ccap, rfl⟩ := hv.slice
  have hb0 : Below w.heap.size w (w.alloc (.cells #[.int .i64 x.tag, .int .i64 x.num] 26)) := (Below.refl _ _).alloc (Nat.le_refl _) _
  have HX := spec_l12Word x hxf (w.alloc (.cells #[.int .i64 x.tag, .int .i64 x.num] 26))
  have hxl := word_len hxf.1
  have HL : Hid (bx (wordT x) ++ (⟨#[10]⟩ : ByteArray) = bx (wordT x ++ [10])) := bx_app _ [10]
  generalize ht0 : bx (wordT x) = t0 at HX HL
  have z0 : t0.size ≤ 23 := by rw [← ht0, bx_size]; exact hxl
  have q0 : ¬ 9223372036854775807 < t0.size + 1 := by omega
  clear ht0 z0
  go_enter Tryz.func27, Tryz.ntmps27
  go_upto_region 3 with (first | (go_at_call 58; refine HX.mono ?_; rintro e w2 ⟨rfl, hb2⟩))
  have hA2 := wi_next hb0 hb2
  rw [HL.out]
  clear hb0 hb2 HX HL q0
  go_loopg [5, 6] C.length (fun g s i wr => ∃ k : Nat, k + g = C.length ∧ s = .string (bx (wordT x ++ [10] ++ (C.take k).flatMap lineT)) ∧ i = .int .i64 (k : Int) ∧ Below w.heap.size w wr)
  case atStart => exact ⟨0, by omega, by simp, rfl, hA2⟩
  case round =>
    clear hA2
    obtain ⟨k, hk, rfl, rfl, hAr⟩ := hrel
    by_cases hlt : k < C.length
    · obtain ⟨b, off, hS, rfl, hr⟩ := hv.at k hlt
      obtain ⟨c0, c1, c2, c3, c4, c5⟩ := Ce.six (rw_same (hAr.block b hS) hr)
      have hki : (k : Int) < (C.length : Int) := by omega
      have hcf := hfine _ (List.getElem_mem hlt)
      have hTK := take_lines C k hlt
      have hpl : ((C.take k).flatMap lineT).length ≤ 60 * 120 := by
        have h1 := lines_len (C.take k) (fun y hy => hfine y (List.mem_of_mem_take hy))
        have h2 : (C.take k).length ≤ C.length := by rw [List.length_take]; omega
        omega
      generalize C[k] = c at c0 c1 c2 c3 c4 c5 hcf hTK
      clear hr
      obtain ⟨m, hm⟩ : ∃ m : Nat, c.kind = (m : Int) := ⟨c.kind.toNat, by have := hcf.kind; omega⟩
      have hm1 : 1 ≤ m ∧ m ≤ 5 := by have := hcf.kind; omega
      have HF : c.kind = 4 ∨ c.kind = 5 → _ := fun h => line_fun (wordT x ++ [10] ++ (C.take k).flatMap lineT) h
      have HN : ¬ (c.kind = 4 ∨ c.kind = 5) → _ := fun h => line_word (wordT x ++ [10] ++ (C.take k).flatMap lineT) h
      rw [List.append_assoc _ _ (lineT c), ← hTK] at HF HN
      have hl1 : (wordT x ++ [10] ++ (C.take k).flatMap lineT).length ≤ 8000 := by simp only [List.length_append, List.length_cons, List.length_nil]; omega
      have hkl := kind_len c.kind
      have hil := itoa_len c.num hcf.num
      have hal := word_len hcf.a.1
      have hbl := word_len hcf.b.1
      obtain ⟨W2, hW2⟩ : ∃ W, W = wr.alloc (boxC c) := ⟨_, rfl⟩
      have hw2 : Below wr.heap.size wr W2 := by rw [hW2]; exact (Below.refl _ _).alloc (Nat.le_refl _) _
      have hz2 : wr.heap.size < W2.heap.size := by rw [hW2]; simp
      have hn0 : W2.heap[wr.heap.size]? = some (boxC c) := by rw [hW2]; exact heap_alloc_new wr _
      have HB : Hid (∀ w', Below W2.heap.size W2 w' → w'.cell? ⟨wr.heap.size, 0, none⟩ = some (.int .i64 c.kind) ∧ w'.cell? ⟨wr.heap.size, 1, none⟩ = some (.int .i64 c.num) ∧ w'.cell? ⟨wr.heap.size, 2, none⟩ = some (.int .i64 c.a.tag) ∧ w'.cell? ⟨wr.heap.size, 3, none⟩ = some (.int .i64 c.a.num) ∧ w'.cell? ⟨wr.heap.size, 4, none⟩ = some (.int .i64 c.b.tag) ∧ w'.cell? ⟨wr.heap.size, 5, none⟩ = some (.int .i64 c.b.num)) := fun w' h => box_six ((h.block _ hz2).trans hn0)
      have HA : ∀ w', Calls Tryz.prog 58 #[.agg #[.int .i64 c.a.tag, .int .i64 c.a.num]] w' fun r w2 => r = .returned (.string (bx (wordT c.a))) ∧ Below w'.heap.size w' w2 := fun w' => spec_l12Word c.a hcf.a w'
      have HBw : ∀ w', Calls Tryz.prog 58 #[.agg #[.int .i64 c.b.tag, .int .i64 c.b.num]] w' fun r w2 => r = .returned (.string (bx (wordT c.b))) ∧ Below w'.heap.size w' w2 := fun w' => spec_l12Word c.b hcf.b w'
      have HD : ∀ w', Calls Tryz.prog 59 #[.int .i64 c.num] w' fun r w2 => r = .returned (.string (bx (Lib.itoa c.num))) ∧ Below w'.heap.size w' w2 := fun w' => dec_all c.num hcf.num w'
      have hkin : ∀ (w' : World), (w'.alloc (.cells kinds6 9)).cell? ⟨w'.heap.size, m, none⟩ = some (.string (bx (kindB c.kind))) := fun w' => by
        rw [cell_of_row _ _ _ _ _ _ (heap_alloc_new w' _), hm]
        exact kinds_at hm1.1 hm1.2
      have hmi : (m : Int) < 6 := by omega
      have hR : Below w.heap.size w W2 := wi_next hAr hw2
      have HFt : c.kind = 4 ∨ c.kind = 5 → Hid _ := HF
      have HNt : ¬ (c.kind = 4 ∨ c.kind = 5) → Hid _ := HN
      clear HF HN
      generalize ht : bx (wordT x ++ [10] ++ (C.take k).flatMap lineT) = t0 at *
      generalize hta : bx (wordT c.a) = ta at *
      generalize htb : bx (wordT c.b) = tb at *
      generalize htk : bx (kindB c.kind) = tk at *
      generalize htn : bx (Lib.itoa c.num) = tn at *
      have z0 : t0.size ≤ 8000 := by rw [← ht, bx_size]; exact hl1
      have za : ta.size ≤ 23 := by rw [← hta, bx_size]; exact hal
      have zb : tb.size ≤ 23 := by rw [← htb, bx_size]; exact hbl
      have zk : tk.size ≤ 4 := by rw [← htk, bx_size]; exact hkl
      have zn : tn.size ≤ 20 := by rw [← htn, bx_size]; exact hil
      have q1 : ¬ 9223372036854775807 < t0.size + tk.size := by omega
      have q2 : ¬ 9223372036854775807 < t0.size + tk.size + 1 := by omega
      have q3 : ¬ 9223372036854775807 < t0.size + tk.size + 1 + tn.size := by omega
      have q4 : ¬ 9223372036854775807 < t0.size + tk.size + 1 + tn.size + 1 := by omega
      have q5 : ¬ 9223372036854775807 < t0.size + tk.size + 1 + tn.size + 1 + tb.size := by omega
      have q6 : ¬ 9223372036854775807 < t0.size + tk.size + 1 + tn.size + 1 + tb.size + 1 := by omega
      have p3 : ¬ 9223372036854775807 < t0.size + tk.size + 1 + ta.size := by omega
      have p4 : ¬ 9223372036854775807 < t0.size + tk.size + 1 + ta.size + 1 := by omega
      have p5 : ¬ 9223372036854775807 < t0.size + tk.size + 1 + ta.size + 1 + tb.size := by omega
      have p6 : ¬ 9223372036854775807 < t0.size + tk.size + 1 + ta.size + 1 + tb.size + 1 := by omega
      clear ht hta htb htk htn z0 za zb zk zn hl1 hkl hil hal hbl hpl hTK hcf hAr hw2 hn0
      have hd0 : Below W2.heap.size W2 W2.drew := (Below.refl _ _).drew
      rw [hm] at HB
      have hW3 : W2 = wr.alloc (.cells #[.int .i64 (m : Int), .int .i64 c.num, .int .i64 c.a.tag, .int .i64 c.a.num, .int .i64 c.b.tag, .int .i64 c.b.num] 48) := by rw [hW2, ← hm]
      have hzz : W2.heap.size = wr.heap.size + 1 := by rw [hW2]; simp
      have HKi : Calls Tryz.prog 52 #[] W2.drew fun r w3 => r = .returned (.slice (some ⟨wr.heap.size + 1, 0, none⟩) 6 6) ∧ Below W2.heap.size W2 w3 ∧ w3.cell? ⟨wr.heap.size + 1, m, none⟩ = some (.string tk) := (spec_l12Kinds W2.drew).mono (by
        rintro e w3 ⟨rfl, rfl⟩
        rw [← hzz]
        exact ⟨rfl, hd0.alloc hd0.size _, hkin W2.drew⟩)
      have HB2 : Hid (∀ w', Below W2.heap.size W2 w' → w'.cell? ⟨wr.heap.size, 1, none⟩ = some (.int .i64 c.num) ∧ w'.cell? ⟨wr.heap.size, 4, none⟩ = some (.int .i64 c.b.tag) ∧ w'.cell? ⟨wr.heap.size, 5, none⟩ = some (.int .i64 c.b.num)) := fun w' h => ⟨(HB.out w' h).2.1, (HB.out w' h).2.2.2.2.1, (HB.out w' h).2.2.2.2.2⟩
      have HB3 : Hid (∀ w', Below W2.heap.size W2 w' → w'.cell? ⟨wr.heap.size, 2, none⟩ = some (.int .i64 c.a.tag) ∧ w'.cell? ⟨wr.heap.size, 3, none⟩ = some (.int .i64 c.a.num) ∧ w'.cell? ⟨wr.heap.size, 4, none⟩ = some (.int .i64 c.b.tag) ∧ w'.cell? ⟨wr.heap.size, 5, none⟩ = some (.int .i64 c.b.num)) := fun w' h => ⟨(HB.out w' h).2.2.1, (HB.out w' h).2.2.2.1, (HB.out w' h).2.2.2.2.1, (HB.out w' h).2.2.2.2.2⟩
      rw [hm] at c0
      have hd0 : Below W2.heap.size W2 (wr.alloc (.cells #[.int .i64 (m : Int), .int .i64 c.num, .int .i64 c.a.tag, .int .i64 c.a.num, .int .i64 c.b.tag, .int .i64 c.b.num] 48)).drew := by rw [← hW3]; exact hd0
      have HKi : Calls Tryz.prog 52 #[] (wr.alloc (.cells #[.int .i64 (m : Int), .int .i64 c.num, .int .i64 c.a.tag, .int .i64 c.a.num, .int .i64 c.b.tag, .int .i64 c.b.num] 48)).drew fun r w3 => r = .returned (.slice (some ⟨wr.heap.size + 1, 0, none⟩) 6 6) ∧ Below W2.heap.size W2 w3 ∧ w3.cell? ⟨wr.heap.size + 1, m, none⟩ = some (.string tk) := by rw [← hW3]; exact HKi
      have hcm : c.kind = 4 ∨ c.kind = 5 ↔ (4 : Int) ≤ (m : Int) := by omega
      clear hkin hz2 hzz hW2
      by_cases hf : c.kind = 4 ∨ c.kind = 5
      · have HT := HFt hf
        have hge : (4 : Int) ≤ (m : Int) := hcm.1 hf
        clear hcm
        clear HFt HNt hf HA p3 p4 p5 p6
        go_wp2_with fail
        go_region_with (first | (go_at_call 52; refine HKi.mono ?_; rintro e w3 ⟨rfl, hd3, hk3⟩; (obtain ⟨x0, x1, x2, x3, x4, x5⟩ := HB.out _ hd3)))
        all_goals
          go_wp2_with fail
          clear x0 x1 x2 x3 x4 x5 hk3
          have hd3d : Below W2.heap.size W2 w3.drew := hd3.drew
          go_region_held3 (fun w' => w'.cell? ⟨wr.heap.size, 1, none⟩ = some (.int .i64 c.num) ∧ w'.cell? ⟨wr.heap.size, 4, none⟩ = some (.int .i64 c.b.tag) ∧ w'.cell? ⟨wr.heap.size, 5, none⟩ = some (.int .i64 c.b.num))
            (first | exact HB2.out _ hd5 | exact HB2.out _ hd4 | exact HB2.out _ hd3d)
            (first
              | (go_at_call 59; refine (HD _).mono ?_; rintro e w4 ⟨rfl, hb4⟩; have hd4 := hd3d.trans (hb4.mono hd3d.size))
              | (go_at_call 58; refine (HBw _).mono ?_; rintro e w5 ⟨rfl, hb5⟩; have hd5 := hd4.trans (hb5.mono hd4.size)))
          go_wp2_with fail
          go_roundg (C.length - (k + 1))
          case measure => omega
          case rel => exact ⟨k + 1, by omega, congrArg Value.string HT.out, by go_num, hR.trans (hd5.mono hR.size)⟩
      · have HT := HNt hf
        have hge : ¬ (4 : Int) ≤ (m : Int) := fun h => hf (hcm.2 h)
        clear hcm
        clear HFt HNt hf HD q3 q4 q5 q6
        go_wp2_with fail
        go_region_with (first | (go_at_call 52; refine HKi.mono ?_; rintro e w3 ⟨rfl, hd3, hk3⟩; (obtain ⟨x0, x1, x2, x3, x4, x5⟩ := HB.out _ hd3)))
        all_goals
          go_wp2_with fail
          clear x0 x1 x2 x3 x4 x5 hk3
          have hd3d : Below W2.heap.size W2 w3.drew := hd3.drew
          go_region_held3 (fun w' => w'.cell? ⟨wr.heap.size, 2, none⟩ = some (.int .i64 c.a.tag) ∧ w'.cell? ⟨wr.heap.size, 3, none⟩ = some (.int .i64 c.a.num) ∧ w'.cell? ⟨wr.heap.size, 4, none⟩ = some (.int .i64 c.b.tag) ∧ w'.cell? ⟨wr.heap.size, 5, none⟩ = some (.int .i64 c.b.num))
            (first | exact HB3.out _ hd5 | exact HB3.out _ hd4 | exact HB3.out _ hd3d)
            (first
              | (go_at_call_of 58 c.a.tag; refine (HA _).mono ?_; rintro e w4 ⟨rfl, hb4⟩; have hd4 := hd3d.trans (hb4.mono hd3d.size))
              | (go_at_call_of 58 c.b.tag; refine (HBw _).mono ?_; rintro e w5 ⟨rfl, hb5⟩; have hd5 := hd4.trans (hb5.mono hd4.size)))
          go_wp2_with fail
          go_roundg (C.length - (k + 1))
          case measure => omega
          case rel => exact ⟨k + 1, by omega, congrArg Value.string HT.out, by go_num, hR.trans (hd5.mono hR.size)⟩
    · obtain rfl : k = C.length := by omega
      rw [List.take_length]
      have hki : ¬ (C.length : Int) < (C.length : Int) := by omega
      go_wp2_with fail
      go_ret
      have HZ : wordT x ++ 10 :: C.flatMap lineT = wireT C x := by simp [wireT]
      exact ⟨congrArg (fun l => Ending.returned (.string (bx l))) HZ, hAr⟩
theorem words_one_iff {n : Nat} {d : Wd} : wordsM n [d] = true ↔ wordP n d.tag d.num := by
  rw [wordsM, List.all_eq_true]
  constructor
  · exact fun h => of_decide_eq_true (h d (by simp))
  · intro h x hx
    have e : x = d := by simpa using hx
    subst e
    exact decide_eq_true h

end Go.Proofs.YthikfinliiaecaaGreatDoor

