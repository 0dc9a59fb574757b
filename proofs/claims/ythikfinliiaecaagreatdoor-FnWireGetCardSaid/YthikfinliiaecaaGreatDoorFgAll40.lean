/-
  The library's strings.CutPrefix, strings.Split at this program.
  The program's numberWord, textWord, wordKind.
-/
import Derived.Test.YthikfinliiaecaaGreatDoorFgAll34
import Derived.Shelf.Small.Wraps
import Derived.Shelf.Strings.Split
import Derived.Test.YthikfinliiaecaaGreatDoorWgMath
import Derived.Test.YthikfinliiaecaaGreatDoorFgAll37
import Derived.Deep.LoopGhost
namespace Go.Proofs.YthikfinliiaecaaGreatDoor
open Go.RowKit Go.Shelf

shelf_lay Lays.n103 Nm 103 at Tryz as lays103
shelf_lay Lays.n146 Nm 146 at Tryz as lays146
theorem cut_prefix (l p : List UInt8) (w : World) : Calls Tryz.prog 41 #[.string (bx l), .string (bx p)] w fun e w' => e = .returned (.tuple #[.string (bx (Lib.trimPrefix l p)), .bool (Lib.hasPrefix l p)]) ∧ w' = w :=
  Any.strings_CutPrefix lays103 (bx l) (bx p) w
theorem str_info9 : (Tryz.prog.info? 9).map (fun i => (i.zero, i.size, i.bytes)) = some (some (.string ByteArray.empty), 1, 16) := by kernel_rfl
/-- The pieces of a text, as values. -/
def piecesV (l p : List UInt8) : List Value := (Lib.split l p).map fun x => .string (bx x)
theorem pieces_raw (l p : List UInt8) : (Lib.splitB (bx p) 0 (Lib.countB (bx l) (bx p)) (bx l)).map Value.string = piecesV l p := by
  have h := Lib.splitB_data (bx p) 0 (Lib.countB (bx l) (bx p)) (bx l)
  have e : Lib.split l p = (Lib.splitB (bx p) 0 (Lib.countB (bx l) (bx p)) (bx l)).map (·.data.toList) := h.symm
  unfold piecesV
  rw [e, List.map_map]
  rfl
theorem str_split (l p : List UInt8) (hl : l.length ≤ 1048576) (hp : 1 ≤ p.length) (w : World) (h : RTab w) : Calls Tryz.prog 45 #[.string (bx l), .string (bx p)] w fun e w' =>
    e = .returned (.slice (some ⟨w.heap.size, 0, none⟩) (Lib.split l p).length (Lib.split l p).length) ∧ w' = w.alloc (.cells (piecesV l p).toArray 9) := by
  obtain ⟨m, hm⟩ := h.most
  have hlen : (piecesV l p).length = Lib.countB (bx l) (bx p) + 1 := by
    rw [← pieces_raw, List.length_map]
    exact Lib.splitB_all (bx p) (by rw [bx_size]; exact hp) 0 _ (bx l) rfl
  have hlen2 : (Lib.split l p).length = Lib.countB (bx l) (bx p) + 1 := by
    rw [← hlen]
    unfold piecesV
    rw [List.length_map]
  refine (Any.strings_Split lays146 str_info9 (bx l) (bx p) m w (by rw [bx_size]; omega) hm (by rw [bx_size]; exact hp)).mono ?_
  rintro e w' ⟨rfl, rfl⟩
  rw [pieces_raw, hlen2]
  exact ⟨rfl, rfl⟩
end Go.Proofs.YthikfinliiaecaaGreatDoor

namespace Go.Proofs.YthikfinliiaecaaGreatDoor
open Go.RowKit

set_option maxHeartbeats 1000000 in
theorem impl_numberWord (t : Int) (s : List UInt8) (hl : s.length ≤ 1048576) (w : World) (hR : RTab w) :
    Calls Tryz.prog 42 #[.int .i64 t, .string (bx s)] w fun r w' => r = .returned (.agg #[.int .i64 (numW t s).tag, .int .i64 (numW t s).num]) ∧ Below w.heap.size w w' := by
  have hA := fun w h => str_atoi s hl w h
  unfold numW
  generalize atoiV s = at' at *
  obtain ⟨nv, isn⟩ := at'
  simp only at hA ⊢
  have hb0 : Below w.heap.size w (w.alloc (.cells #[.int .i64 0, .int .i64 0] 26)) := (Below.refl _ _).alloc (Nat.le_refl _) _
  have hA0 := hA _ (hR.keep hb0)
  generalize bx s = ts at *
  clear hA hR
  have HC : ∀ w5, Below (w.alloc (.cells #[.int .i64 0, .int .i64 0] 26)).heap.size (w.alloc (.cells #[.int .i64 0, .int .i64 0] 26)) w5 → (w5.cell? ⟨w.heap.size, 0, none⟩ = some (.int .i64 0) ∧ w5.cell? ⟨w.heap.size, 1, none⟩ = some (.int .i64 0)) ∧ (w5.frozen? ⟨w.heap.size, 0, none⟩ = false ∧ w5.frozen? ⟨w.heap.size, 1, none⟩ = false) ∧ w.heap.size < w5.heap.size := fun w5 hb => by
    have h5 := (hb.block w.heap.size (by simp)).trans (heap_alloc_new w (.cells #[.int .i64 0, .int .i64 0] 26))
    refine ⟨⟨by rw [cell_of_row _ _ _ _ _ _ h5]; rfl, by rw [cell_of_row _ _ _ _ _ _ h5]; rfl⟩, ⟨?_, ?_⟩, (Array.getElem?_eq_some_iff.1 h5).1⟩
    · unfold World.frozen?; rw [h5]; simp
    · unfold World.frozen?; rw [h5]; simp
  cases isn with
  | true =>
    rw [if_pos rfl]
    go_enter Tryz.func42, Tryz.ntmps42
    go_wp2_with (go_at_call 73; refine hA0.mono ?_; rintro e w5 ⟨⟨ev, rfl, hev, _⟩, hb5⟩; obtain rfl := hev rfl; obtain ⟨⟨c0, c1⟩, ⟨f0, f1⟩, hz⟩ := HC _ hb5)
    refine bodyPost_ret (v := .agg #[.int .i64 t, .int .i64 nv]) (by simp [results, Tryz.results42, go_sem, c0, c1]) rfl ⟨rfl, ?_⟩
    repeat (refine Below.setCell ?_ (by dsimp only; omega) _)
    exact hb0.trans (hb5.mono (by simp))
  | false =>
    rw [if_neg (by simp)]
    go_enter Tryz.func42, Tryz.ntmps42
    go_wp2_with (go_at_call 73; refine hA0.mono ?_; rintro e w5 ⟨⟨ev, rfl, _, hev⟩, hb5⟩; obtain ⟨te, pe, rfl⟩ := hev rfl; obtain ⟨⟨c0, c1⟩, ⟨f0, f1⟩, hz⟩ := HC _ hb5)
    refine bodyPost_ret (v := .agg #[.int .i64 (-1), .int .i64 0]) (by simp [results, Tryz.results42, go_sem, c0, c1]) rfl ⟨rfl, ?_⟩
    repeat (refine Below.setCell ?_ (by dsimp only; omega) _)
    exact hb0.trans (hb5.mono (by simp))

/-- A word's box that is written. -/
theorem word_box (w w' : World) (hb : Below (w.alloc (.cells #[.int .i64 0, .int .i64 0] 26)).heap.size (w.alloc (.cells #[.int .i64 0, .int .i64 0] 26)) w') : (w'.cell? ⟨w.heap.size, 0, none⟩ = some (.int .i64 0) ∧ w'.cell? ⟨w.heap.size, 1, none⟩ = some (.int .i64 0)) ∧ (w'.frozen? ⟨w.heap.size, 0, none⟩ = false ∧ w'.frozen? ⟨w.heap.size, 1, none⟩ = false) ∧ w.heap.size < w'.heap.size := by
  have h5 := (hb.block w.heap.size (by simp)).trans (heap_alloc_new w (.cells #[.int .i64 0, .int .i64 0] 26))
  refine ⟨⟨by rw [cell_of_row _ _ _ _ _ _ h5]; rfl, by rw [cell_of_row _ _ _ _ _ _ h5]; rfl⟩, ⟨?_, ?_⟩, (Array.getElem?_eq_some_iff.1 h5).1⟩
  · unfold World.frozen?; rw [h5]; simp
  · unfold World.frozen?; rw [h5]; simp
theorem trimp_le (l p : List UInt8) : (Lib.trimPrefix l p).length ≤ l.length := by
  unfold Lib.trimPrefix
  split
  · rw [List.length_drop]; omega
  · exact Nat.le_refl _
set_option maxHeartbeats 2000000 in
theorem impl_textWord (s : List UInt8) (hl : s.length ≤ 1048576) (w : World) (hR : RTab w) :
    Calls Tryz.prog 17 #[.string (bx s)] w fun r w' => r = .returned (.agg #[.int .i64 (wordR s).tag, .int .i64 (wordR s).num]) ∧ Below w.heap.size w w' := by
  have hb0 : Below w.heap.size w (w.alloc (.cells #[.int .i64 0, .int .i64 0] 26)) := (Below.refl _ _).alloc (Nat.le_refl _) _
  have HB := word_box w
  have hN := fun (t : Int) (s' : List UInt8) (h : s'.length ≤ 1048576) => impl_numberWord t s' h (w.alloc (.cells #[.int .i64 0, .int .i64 0] 26)) (hR.keep hb0)
  have hP := fun w => cut_prefix s pidB w
  have hA := fun w => cut_prefix s atB w
  have hl3 := Nat.le_trans (trimp_le s pidB) hl
  have hl2 := Nat.le_trans (trimp_le s atB) hl
  obtain ⟨W, hW⟩ : ∃ W, W = wordR s := ⟨_, rfl⟩
  rw [← hW]
  have hq : ∀ p : List UInt8, ((bx s).toList == p) = decide (s = p) := fun p => by
    rw [bx_toList]
    by_cases h : s = p
    · rw [decide_eq_true h, h]; simp
    · rw [decide_eq_false h]; simpa using h
  have q1 := hq nilB
  have q2 := hq falseB
  have q3 := hq trueB
  unfold wordR at hW
  by_cases h1 : s = nilB
  · rw [if_pos h1] at hW
    subst hW
    rw [decide_eq_true h1] at q1
    clear hP hA hN hq q2 q3
    generalize bx s = ts at *
    have q1' : (ts.toList == ([110, 105, 108] : List UInt8)) = true := q1
    clear q1
    go_enter Tryz.func17, Tryz.ntmps17
    obtain ⟨⟨c0, c1⟩, ⟨f0, f1⟩, hz⟩ := HB _ (Below.refl _ _)
    go_wp2_with fail
    refine bodyPost_ret (v := .agg #[.int .i64 0, .int .i64 0]) (by simp [results, Tryz.results17, go_sem, c0, c1]) rfl ⟨rfl, ?_⟩
    repeat (refine Below.setCell ?_ (by dsimp only; omega) _)
    exact hb0
  rw [if_neg h1] at hW
  rw [decide_eq_false h1] at q1
  by_cases h2 : s = falseB
  · rw [if_pos h2] at hW
    subst hW
    rw [decide_eq_true h2] at q2
    clear hP hA hN hq q3
    generalize bx s = ts at *
    have q1' : (ts.toList == ([110, 105, 108] : List UInt8)) = false := q1
    have q2' : (ts.toList == ([102, 97, 108, 115, 101] : List UInt8)) = true := q2
    clear q1 q2
    go_enter Tryz.func17, Tryz.ntmps17
    obtain ⟨⟨c0, c1⟩, ⟨f0, f1⟩, hz⟩ := HB _ (Below.refl _ _)
    go_wp2_with fail
    refine bodyPost_ret (v := .agg #[.int .i64 2, .int .i64 0]) (by simp [results, Tryz.results17, go_sem]) rfl ⟨rfl, ?_⟩
    repeat (refine Below.setCell ?_ (by dsimp only; omega) _)
    exact (Below.refl _ _).alloc (Nat.le_refl _) _
  rw [if_neg h2] at hW
  rw [decide_eq_false h2] at q2
  by_cases h3 : s = trueB
  · rw [if_pos h3] at hW
    subst hW
    rw [decide_eq_true h3] at q3
    clear hP hA hN hq
    generalize bx s = ts at *
    have q1' : (ts.toList == ([110, 105, 108] : List UInt8)) = false := q1
    have q2' : (ts.toList == ([102, 97, 108, 115, 101] : List UInt8)) = false := q2
    have q3' : (ts.toList == ([116, 114, 117, 101] : List UInt8)) = true := q3
    clear q1 q2 q3
    go_enter Tryz.func17, Tryz.ntmps17
    obtain ⟨⟨c0, c1⟩, ⟨f0, f1⟩, hz⟩ := HB _ (Below.refl _ _)
    go_wp2_with fail
    refine bodyPost_ret (v := .agg #[.int .i64 2, .int .i64 1]) (by simp [results, Tryz.results17, go_sem]) rfl ⟨rfl, ?_⟩
    repeat (refine Below.setCell ?_ (by dsimp only; omega) _)
    exact (Below.refl _ _).alloc (Nat.le_refl _) _
  rw [if_neg h3] at hW
  rw [decide_eq_false h3] at q3
  clear hq
  cases h4 : Lib.hasPrefix s pidB with
  | true =>
    rw [h4, if_pos rfl] at hW
    rw [h4] at hP
    have hN3 := hN 3 (Lib.trimPrefix s pidB) hl3
    rw [← hW] at hN3
    clear hA hN hW h4 h1 h2 h3
    generalize bx s = ts at *
    generalize bx (Lib.trimPrefix s pidB) = tt at *
    have q1' : (ts.toList == ([110, 105, 108] : List UInt8)) = false := q1
    have q2' : (ts.toList == ([102, 97, 108, 115, 101] : List UInt8)) = false := q2
    have q3' : (ts.toList == ([116, 114, 117, 101] : List UInt8)) = false := q3
    have hP' : ∀ w, Calls Tryz.prog 41 #[.string ts, .string ⟨#[112, 105, 100]⟩] w fun e w' => e = .returned (.tuple #[.string tt, .bool true]) ∧ w' = w := hP
    clear q1 q2 q3 hP
    go_enter Tryz.func17, Tryz.ntmps17
    go_wp2_with (first
      | (go_at_call 41; refine (hP' _).mono ?_; rintro r w2 ⟨rfl, rfl⟩)
      | (go_at_call 42; refine hN3.mono ?_; rintro r w3 ⟨rfl, hb3⟩; obtain ⟨⟨c0, c1⟩, ⟨f0, f1⟩, hz⟩ := HB _ hb3))
    refine bodyPost_ret (v := .agg #[.int .i64 W.tag, .int .i64 W.num]) (by simp [results, Tryz.results17, go_sem, c0, c1]) rfl ⟨rfl, ?_⟩
    repeat (refine Below.setCell ?_ (by dsimp only; omega) _)
    exact hb0.trans (hb3.mono (by simp))
  | false =>
    rw [h4, if_neg (by simp)] at hW
    rw [h4] at hP
    cases h5 : Lib.hasPrefix s atB with
    | true =>
      rw [h5, if_pos rfl] at hW
      rw [h5] at hA
      have hN3 := hN 4 (Lib.trimPrefix s atB) hl2
      rw [← hW] at hN3
      clear hN hW h4 h5 h1 h2 h3
      generalize bx s = ts at *
      generalize bx (Lib.trimPrefix s pidB) = tt at *
      generalize bx (Lib.trimPrefix s atB) = ta at *
      have q1' : (ts.toList == ([110, 105, 108] : List UInt8)) = false := q1
      have q2' : (ts.toList == ([102, 97, 108, 115, 101] : List UInt8)) = false := q2
      have q3' : (ts.toList == ([116, 114, 117, 101] : List UInt8)) = false := q3
      have hP' : ∀ w, Calls Tryz.prog 41 #[.string ts, .string ⟨#[112, 105, 100]⟩] w fun e w' => e = .returned (.tuple #[.string tt, .bool false]) ∧ w' = w := hP
      have hA' : ∀ w, Calls Tryz.prog 41 #[.string ts, .string ⟨#[97, 116]⟩] w fun e w' => e = .returned (.tuple #[.string ta, .bool true]) ∧ w' = w := hA
      clear q1 q2 q3 hP hA
      go_enter Tryz.func17, Tryz.ntmps17
      go_upto_region 11 with (go_at_call 41; refine (hP' _).mono ?_; rintro r w2 ⟨rfl, rfl⟩)
      go_wp2_with (first
        | (go_at_call 41; refine (hA' _).mono ?_; rintro r w2 ⟨rfl, rfl⟩)
        | (go_at_call 42; refine hN3.mono ?_; rintro r w3 ⟨rfl, hb3⟩; obtain ⟨⟨c0, c1⟩, ⟨f0, f1⟩, hz⟩ := HB _ hb3))
      refine bodyPost_ret (v := .agg #[.int .i64 W.tag, .int .i64 W.num]) (by simp [results, Tryz.results17, go_sem, c0, c1]) rfl ⟨rfl, ?_⟩
      repeat (refine Below.setCell ?_ (by dsimp only; omega) _)
      exact hb0.trans (hb3.mono (by simp))
    | false =>
      rw [h5, if_neg (by simp)] at hW
      rw [h5] at hA
      have hN3 := hN 1 s hl
      rw [← hW] at hN3
      clear hN hW h4 h5 h1 h2 h3
      generalize bx s = ts at *
      generalize bx (Lib.trimPrefix s pidB) = tt at *
      generalize bx (Lib.trimPrefix s atB) = ta at *
      have q1' : (ts.toList == ([110, 105, 108] : List UInt8)) = false := q1
      have q2' : (ts.toList == ([102, 97, 108, 115, 101] : List UInt8)) = false := q2
      have q3' : (ts.toList == ([116, 114, 117, 101] : List UInt8)) = false := q3
      have hP' : ∀ w, Calls Tryz.prog 41 #[.string ts, .string ⟨#[112, 105, 100]⟩] w fun e w' => e = .returned (.tuple #[.string tt, .bool false]) ∧ w' = w := hP
      have hA' : ∀ w, Calls Tryz.prog 41 #[.string ts, .string ⟨#[97, 116]⟩] w fun e w' => e = .returned (.tuple #[.string ta, .bool false]) ∧ w' = w := hA
      clear q1 q2 q3 hP hA
      go_enter Tryz.func17, Tryz.ntmps17
      go_upto_region 11 with (go_at_call 41; refine (hP' _).mono ?_; rintro r w2 ⟨rfl, rfl⟩)
      go_wp2_with (first
        | (go_at_call 41; refine (hA' _).mono ?_; rintro r w2 ⟨rfl, rfl⟩)
        | (go_at_call 42; refine hN3.mono ?_; rintro r w3 ⟨rfl, hb3⟩; obtain ⟨⟨c0, c1⟩, ⟨f0, f1⟩, hz⟩ := HB _ hb3))
      refine bodyPost_ret (v := .agg #[.int .i64 W.tag, .int .i64 W.num]) (by simp [results, Tryz.results17, go_sem, c0, c1]) rfl ⟨rfl, ?_⟩
      repeat (refine Below.setCell ?_ (by dsimp only; omega) _)
      exact hb0.trans (hb3.mono (by simp))
end Go.Proofs.YthikfinliiaecaaGreatDoor

