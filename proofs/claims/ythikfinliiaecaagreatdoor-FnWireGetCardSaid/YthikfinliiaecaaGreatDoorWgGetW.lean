/-
  The specification's l12Get.
-/
import Derived.Test.YthikfinliiaecaaGreatDoorWgNum
import Derived.Test.YthikfinliiaecaaGreatDoorFgAll40
namespace Go.Proofs.YthikfinliiaecaaGreatDoor
open Go.RowKit

set_option maxRecDepth 100000 in
set_option maxHeartbeats 4000000 in
theorem spec_l12Get (s : List UInt8) (hl : s.length ≤ 1048576) (w : World) :
    Calls Tryz.prog 22 #[.string (bx s)] w fun r w' => r = .returned (.tuple #[.agg #[.int .i64 (wordS s).1.tag, .int .i64 (wordS s).1.num], .bool (wordS s).2]) ∧ Below w.heap.size w w' := by
  have hb0 : Below w.heap.size w (w.alloc (.cells #[.int .i64 0, .int .i64 0] 26)) := (Below.refl _ _).alloc (Nat.le_refl _) _
  have HB := word_box w
  obtain ⟨t, hsz, hx3, hx2, hy3, hy2, e⟩ : ∃ t : ByteArray, t.size = s.length ∧ Hid (t.extract 0 3 = bx (s.take 3)) ∧ Hid (t.extract 0 2 = bx (s.take 2)) ∧ Hid (t.extract 3 s.length = bx (s.drop 3)) ∧ Hid (t.extract 2 s.length = bx (s.drop 2)) ∧ bx s = t := ⟨bx s, bx_size s, bx_front s 3, bx_front s 2, (by
    show _ = _
    rw [bx_extract, List.take_of_length_le (by rw [List.length_drop]; exact Nat.le_refl _)]), (by
    show _ = _
    rw [bx_extract, List.take_of_length_le (by rw [List.length_drop]; exact Nat.le_refl _)]), rfl⟩
  have hq : ∀ p : List UInt8, (t.toList == p) = decide (s = p) := fun p => by
    rw [← e, bx_toList]
    by_cases h : s = p
    · rw [decide_eq_true h, h]; simp
    · rw [decide_eq_false h]; simpa using h
  have hq3 : ((t.extract 0 3).toList == [112, 105, 100]) = decide (s.take 3 = pidB) := by
    rw [hx3.out, bx_toList]
    by_cases h : s.take 3 = pidB
    · rw [decide_eq_true h, h]; rfl
    · rw [decide_eq_false h]; simpa [pidB] using h
  have hq2 : ((t.extract 0 2).toList == [97, 116]) = decide (s.take 2 = atB) := by
    rw [hx2.out, bx_toList]
    by_cases h : s.take 2 = atB
    · rw [decide_eq_true h, h]; rfl
    · rw [decide_eq_false h]; simpa [atB] using h
  have hN3 : ∀ w', Calls Tryz.prog 49 #[.string (t.extract 3 s.length)] w' fun r w2 => r = .returned (.int .i64 (numM (s.drop 3))) ∧ w' = w2 := fun w' => by rw [hy3.out]; exact spec_l1Num _ (by rw [List.length_drop]; omega) w'
  have hN2 : ∀ w', Calls Tryz.prog 49 #[.string (t.extract 2 s.length)] w' fun r w2 => r = .returned (.int .i64 (numM (s.drop 2))) ∧ w' = w2 := fun w' => by rw [hy2.out]; exact spec_l1Num _ (by rw [List.length_drop]; omega) w'
  have hNN : ∀ w', Calls Tryz.prog 50 #[.string t] w' fun r w2 => r = .returned (.tuple #[.int .i64 (num12 s).1, .bool (num12 s).2]) ∧ w' = w2 := fun w' => by rw [← e]; exact spec_l12Number s hl w'
  rw [e]
  clear e hx3 hx2 hy3 hy2
  have q1 : (t.toList == [110, 105, 108]) = decide (s = nilB) := hq _
  have q2 : (t.toList == [116, 114, 117, 101]) = decide (s = trueB) := hq _
  have q3 : (t.toList == [102, 97, 108, 115, 101]) = decide (s = falseB) := hq _
  clear hq
  obtain ⟨W, hW⟩ : ∃ W, W = wordS s := ⟨_, rfl⟩
  rw [← hW]
  unfold wordS at hW
  obtain ⟨⟨z0, z1⟩, ⟨g0, g1⟩, hz⟩ := HB _ (Below.refl _ _)
  by_cases h1 : s = nilB
  · rw [if_pos h1] at hW
    subst hW
    rw [decide_eq_true h1] at q1
    clear hN3 hN2 hNN hq3 hq2 q2 q3 h1
    go_enter Tryz.func22, Tryz.ntmps22
    go_wp2_with fail
    refine bodyPost_ret (v := .tuple #[.agg #[.int .i64 0, .int .i64 0], .bool true]) (by simp [results, Tryz.results22, go_sem]) rfl ⟨rfl, ?_⟩
    repeat (refine Below.setCell ?_ (by dsimp only; omega) _)
    exact (Below.refl _ _).alloc (Nat.le_refl _) _
  rw [if_neg h1] at hW
  rw [decide_eq_false h1] at q1
  by_cases h2 : s = trueB
  · rw [if_pos h2] at hW
    subst hW
    rw [decide_eq_true h2] at q2
    clear hN3 hN2 hNN hq3 hq2 q3 h1 h2
    go_enter Tryz.func22, Tryz.ntmps22
    go_wp2_with fail
    refine bodyPost_ret (v := .tuple #[.agg #[.int .i64 2, .int .i64 1], .bool true]) (by simp [results, Tryz.results22, go_sem]) rfl ⟨rfl, ?_⟩
    repeat (refine Below.setCell ?_ (by dsimp only; omega) _)
    exact (Below.refl _ _).alloc (Nat.le_refl _) _
  rw [if_neg h2] at hW
  rw [decide_eq_false h2] at q2
  by_cases h3 : s = falseB
  · rw [if_pos h3] at hW
    subst hW
    rw [decide_eq_true h3] at q3
    clear hN3 hN2 hNN hq3 hq2 h1 h2 h3
    go_enter Tryz.func22, Tryz.ntmps22
    go_wp2_with fail
    refine bodyPost_ret (v := .tuple #[.agg #[.int .i64 2, .int .i64 0], .bool true]) (by simp [results, Tryz.results22, go_sem]) rfl ⟨rfl, ?_⟩
    repeat (refine Below.setCell ?_ (by dsimp only; omega) _)
    exact (Below.refl _ _).alloc (Nat.le_refl _) _
  rw [if_neg h3] at hW
  rw [decide_eq_false h3] at q3
  clear h1 h2 h3
  by_cases h4 : 3 < s.length ∧ s.take 3 = pidB
  · rw [if_pos h4] at hW
    have HW : Hid (W = (⟨3, numM (s.drop 3)⟩, true)) := hW
    rw [decide_eq_true h4.2] at hq3
    have h4i : (3 : Int) < (s.length : Int) := by omega
    have h4l : (3 : Int) ≤ (s.length : Int) := by omega
    have h4n : 3 ≤ s.length := by omega
    clear hW h4 hN2 hNN hq2
    generalize numM (s.drop 3) = nm at *
    go_enter Tryz.func22, Tryz.ntmps22
    go_wp2_with (go_at_call 49; refine (hN3 _).mono ?_; rintro r w3 ⟨rfl, rfl⟩)
    refine bodyPost_ret (v := .tuple #[.agg #[.int .i64 3, .int .i64 nm], .bool true]) (by simp [results, Tryz.results22, go_sem]) rfl ⟨by rw [HW.out], ?_⟩
    repeat (refine Below.setCell ?_ (by dsimp only; omega) _)
    exact (Below.refl _ _).alloc (Nat.le_refl _) _
  rw [if_neg h4] at hW
  have h4w : (¬ (3 : Int) < (s.length : Int)) ∨ ((3 : Int) < (s.length : Int) ∧ (3 : Int) ≤ (s.length : Int) ∧ 3 ≤ s.length) ∧ ((t.extract 0 3).toList == [112, 105, 100]) = false := by
    by_cases h : 3 < s.length
    · exact Or.inr ⟨by omega, by rw [hq3, decide_eq_false (fun e => h4 ⟨h, e⟩)]⟩
    · exact Or.inl (by omega)
  clear h4 hq3 hN3
  by_cases h5 : 2 < s.length ∧ s.take 2 = atB
  · rw [if_pos h5] at hW
    have HW : Hid (W = (⟨4, numM (s.drop 2)⟩, true)) := hW
    rw [decide_eq_true h5.2] at hq2
    have h5i : (2 : Int) < (s.length : Int) := by omega
    have h5l : (2 : Int) ≤ (s.length : Int) := by omega
    have h5n : 2 ≤ s.length := by omega
    clear hW h5 hNN
    generalize numM (s.drop 2) = nm at *
    rcases h4w with h4 | ⟨⟨h4, h4l, h4n⟩, h4q⟩
    all_goals
      go_enter Tryz.func22, Tryz.ntmps22
      go_wp2_with (go_at_call 49; refine (hN2 _).mono ?_; rintro r w3 ⟨rfl, rfl⟩)
      refine bodyPost_ret (v := .tuple #[.agg #[.int .i64 4, .int .i64 nm], .bool true]) (by simp [results, Tryz.results22, go_sem]) rfl ⟨by rw [HW.out], ?_⟩
      repeat (refine Below.setCell ?_ (by dsimp only; omega) _)
      exact (Below.refl _ _).alloc (Nat.le_refl _) _
  rw [if_neg h5] at hW
  have h5w : (¬ (2 : Int) < (s.length : Int)) ∨ ((2 : Int) < (s.length : Int) ∧ (2 : Int) ≤ (s.length : Int) ∧ 2 ≤ s.length) ∧ ((t.extract 0 2).toList == [97, 116]) = false := by
    by_cases h : 2 < s.length
    · exact Or.inr ⟨by omega, by rw [hq2, decide_eq_false (fun e => h5 ⟨h, e⟩)]⟩
    · exact Or.inl (by omega)
  clear h5 hq2 hN2
  have HW : Hid (W = (⟨1, (num12 s).1⟩, (num12 s).2)) := hW
  generalize num12 s = p at *
  obtain ⟨nm, ok⟩ := p
  clear hW
  have hfin : ∀ {x : Value}, x = .tuple #[.agg #[.int .i64 1, .int .i64 nm], .bool ok] → Ending.returned x = .returned (.tuple #[.agg #[.int .i64 W.1.tag, .int .i64 W.1.num], .bool W.2]) := fun h => by rw [h, HW.out]
  rcases h4w with h4 | ⟨⟨h4, h4l, h4n⟩, h4q⟩
  · rcases h5w with h5 | ⟨⟨h5, h5l, h5n⟩, h5q⟩
    all_goals
      go_enter Tryz.func22, Tryz.ntmps22
      go_wp2_with (go_at_call 50; refine (hNN _).mono ?_; rintro r w3 ⟨rfl, rfl⟩)
      refine bodyPost_ret (v := .tuple #[.agg #[.int .i64 1, .int .i64 nm], .bool ok]) (by simp [results, Tryz.results22, go_sem]) rfl ⟨hfin rfl, ?_⟩
      repeat (refine Below.setCell ?_ (by dsimp only; omega) _)
      exact (Below.refl _ _).alloc (Nat.le_refl _) _
  · rcases h5w with h5 | ⟨⟨h5, h5l, h5n⟩, h5q⟩
    · omega
    · go_enter Tryz.func22, Tryz.ntmps22
      go_wp2_with (go_at_call 50; refine (hNN _).mono ?_; rintro r w3 ⟨rfl, rfl⟩)
      refine bodyPost_ret (v := .tuple #[.agg #[.int .i64 1, .int .i64 nm], .bool ok]) (by simp [results, Tryz.results22, go_sem]) rfl ⟨hfin rfl, ?_⟩
      repeat (refine Below.setCell ?_ (by dsimp only; omega) _)
      exact (Below.refl _ _).alloc (Nat.le_refl _) _
end Go.Proofs.YthikfinliiaecaaGreatDoor

