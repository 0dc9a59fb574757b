/-
  The law's own szAnswer, toAnswer, eqAnswer.
-/
import Derived.Test.YtnmmhicgodfpcaaDoorAnImpl
namespace Go.Proofs.YtnmmhicgodfpcaaDoor
open Go.RowKit

theorem AnAt.keep {w w' : World} {a : An} {s0 s1 s2 : Value} (h : AnAt w (· < w.heap.size) a s0 s1 s2) (hb : Below w.heap.size w w') : AnAt w' (· < w'.heap.size) a s0 s1 s2 :=
  ⟨h.o.keep hb hb.size, h.e.keep hb hb.size, h.b.keep hb hb.size⟩

set_option maxHeartbeats 1000000 in
theorem law_szAnswer (a : An) (w : World) (S : Nat → Prop) (s0 s1 s2 : Value) (hv : AnAt w S a s0 s1 s2) (h0 : a.outs.length ≤ maxLen) (h1 : a.ends.length ≤ maxLen) (h2 : a.boxes.length ≤ maxLen) :
    Calls Tryd.prog 4 #[.agg #[s0, s1, s2], .int .i64 1048576] w fun r w' => (∃ m : Int, r = .returned (.int .i64 m) ∧ (0 ≤ m → a.outs.length + a.ends.length + a.boxes.length ≤ 1048576)) ∧ Below w.heap.size w w' := by
  obtain ⟨v0, v1, v2⟩ := hv
  obtain ⟨a0, cap0, rfl⟩ := v0.slice
  obtain ⟨a1, cap1, rfl⟩ := v1.slice
  obtain ⟨a2, cap2, rfl⟩ := v2.slice
  have hB : ∀ o, Below w.heap.size w (w.alloc o) := fun o => (Below.refl _ _).alloc (Nat.le_refl _) o
  go_enter Tryd.func4, Tryd.ntmps4
  go_upto_region 4 with (go_at_call 9; refine (law_szToldL a.outs h0 _ a0 cap0 1048576 (by omega)).mono ?_; rintro r w2 ⟨⟨n, rfl, hn1, hn2⟩, hww⟩; have hw2 := hww.symm; clear hww; subst hw2; have H1 : Hid (0 ≤ n → n = ((1048576 : Nat) : Int) - a.outs.length) := hn2; clear hn2)
  · go_ret
    exact ⟨⟨_, rfl, fun h => by omega⟩, hB _⟩
  have e1 := H1.out (by omega)
  clear H1
  obtain ⟨m1, rfl⟩ : ∃ m : Nat, n = (m : Int) := ⟨n.toNat, by omega⟩
  have hm1 : m1 ≤ 1048576 := by omega
  have HZ1 := fun w => law_szIntL a.ends h1 w a1 cap1 m1 hm1
  have E1 : Hid ((m1 : Int) = ((1048576 : Nat) : Int) - a.outs.length) := e1
  clear e1
  go_upto_region 7 with (go_at_call 10; refine (HZ1 _).mono ?_; rintro r w2 ⟨⟨n, rfl, hn3, hn4⟩, hww⟩; have hw2 := hww.symm; clear hww; subst hw2; have H1 : Hid (0 ≤ n → n = (m1 : Int) - a.ends.length) := hn4; clear hn4)
  · go_ret
    exact ⟨⟨_, rfl, fun h => by omega⟩, hB _⟩
  have e2 := H1.out (by omega)
  clear H1 HZ1
  obtain ⟨m2, rfl⟩ : ∃ m : Nat, n = (m : Int) := ⟨n.toNat, by omega⟩
  have HZ2 := fun w => law_szIntL a.boxes h2 w a2 cap2 m2 (by omega)
  have E2 : Hid ((m2 : Int) = (m1 : Int) - a.ends.length) := e2
  clear e2
  go_upto_region 10 with (go_at_call 10; refine (HZ2 _).mono ?_; rintro r w2 ⟨⟨n, rfl, hn5, hn6⟩, hww⟩; have hw2 := hww.symm; clear hww; subst hw2; have H1 : Hid (0 ≤ n → n = (m2 : Int) - a.boxes.length) := hn6; clear hn6)
  · go_ret
    exact ⟨⟨_, rfl, fun h => by omega⟩, hB _⟩
  go_wp2_with fail
  go_ret
  refine ⟨⟨_, rfl, fun h => ?_⟩, hB _⟩
  have := H1.out h
  have := E1.out
  have := E2.out
  omega

set_option maxHeartbeats 1000000 in
theorem law_eqAnswer (a : An) (hl : a.outs.length + a.ends.length + a.boxes.length ≤ 1048576) (w : World) (s0 s1 s2 t0 t1 t2 : Value) (hs : AnAt w (· < w.heap.size) a s0 s1 s2) (ht : AnAt w (· < w.heap.size) a t0 t1 t2) :
    Calls Tryd.prog 8 #[.agg #[s0, s1, s2], .agg #[t0, t1, t2]] w fun r w' => r = .returned (.bool true) ∧ Below w.heap.size w w' := by
  obtain ⟨W, hW⟩ : ∃ W, W = (w.alloc (.cells #[s0, s1, s2] 30)).alloc (.cells #[t0, t1, t2] 30) := ⟨_, rfl⟩
  have hb : Below w.heap.size w W := by rw [hW]; exact ((Below.refl _ _).alloc (Nat.le_refl _) _).alloc (by simp) _
  have KS : Hid (∀ w' : World, Below W.heap.size W w' → AnAt w' (· < w'.heap.size) a s0 s1 s2) := fun w' h => (hs.keep hb).keep h
  have KT : Hid (∀ w' : World, Below W.heap.size W w' → AnAt w' (· < w'.heap.size) a t0 t1 t2) := fun w' h => (ht.keep hb).keep h
  have HC : Hid (∀ w' : World, Below W.heap.size W w' → (w'.cell? ⟨w.heap.size, 0, none⟩ = some s0 ∧ w'.cell? ⟨w.heap.size, 1, none⟩ = some s1 ∧ w'.cell? ⟨w.heap.size, 2, none⟩ = some s2) ∧ w'.cell? ⟨w.heap.size + 1, 0, none⟩ = some t0 ∧ w'.cell? ⟨w.heap.size + 1, 1, none⟩ = some t1 ∧ w'.cell? ⟨w.heap.size + 1, 2, none⟩ = some t2) := fun w' h => by
    have r0 : W.heap[w.heap.size]? = some (.cells #[s0, s1, s2] 30) := by
      rw [hW, ((Below.refl _ _).alloc (Nat.le_refl _) _ : Below (w.alloc (.cells #[s0, s1, s2] 30)).heap.size (w.alloc (.cells #[s0, s1, s2] 30)) _).block w.heap.size (by simp)]
      exact heap_alloc_new w _
    have r1 : W.heap[w.heap.size + 1]? = some (.cells #[t0, t1, t2] 30) := by
      rw [hW]
      have := heap_alloc_new (w.alloc (.cells #[s0, s1, s2] 30)) (.cells #[t0, t1, t2] 30)
      simpa using this
    have hz : W.heap.size = w.heap.size + 1 + 1 := by rw [hW]; simp
    have f0 := (h.block w.heap.size (by omega)).trans r0
    have f1 := (h.block (w.heap.size + 1) (by omega)).trans r1
    refine ⟨⟨?_, ?_, ?_⟩, ?_, ?_, ?_⟩
    · rw [cell_of_row _ _ _ _ _ _ f0]; rfl
    · rw [cell_of_row _ _ _ _ _ _ f0]; rfl
    · rw [cell_of_row _ _ _ _ _ _ f0]; rfl
    · rw [cell_of_row _ _ _ _ _ _ f1]; rfl
    · rw [cell_of_row _ _ _ _ _ _ f1]; rfl
    · rw [cell_of_row _ _ _ _ _ _ f1]; rfl
  have hd : Below W.heap.size W ((w.alloc (.cells #[s0, s1, s2] 30)).alloc (.cells #[t0, t1, t2] 30)) := by rw [← hW]; exact Below.refl _ _
  clear hW
  go_enter Tryd.func8, Tryd.ntmps8
  go_upto_region 3 with (go_at_call 17; refine (law_eqToldS a.outs (by omega) _ _ _ (KS.out _ hd).o (KT.out _ hd).o).mono ?_; rintro r w2 ⟨rfl, hb2⟩; have hd2 := hd.trans (hb2.mono hd.size); (obtain ⟨⟨x0, x1, x2⟩, y0, y1, y2⟩ := HC.out _ hd2))
  go_upto_region 5 with (go_at_call 18; refine (law_eqInts a.ends (by omega) _ _ _ (KS.out _ hd2).e (KT.out _ hd2).e).mono ?_; rintro r w3 ⟨rfl, hb3⟩; have hd3 := hd2.trans (hb3.mono hd2.size); clear x0 x1 x2 y0 y1 y2; (obtain ⟨⟨x0, x1, x2⟩, y0, y1, y2⟩ := HC.out _ hd3))
  go_wp2_with (go_at_call 18; refine (law_eqInts a.boxes (by omega) _ _ _ (KS.out _ hd3).b (KT.out _ hd3).b).mono ?_; rintro r w4 ⟨rfl, hb4⟩; have hd4 := hd3.trans (hb4.mono hd3.size))
  go_ret
  exact ⟨rfl, hb.trans (hd4.mono hb.size)⟩

theorem set_size (w : World) (p : Addr) (u : Value) : (w.setCell p u).heap.size = w.heap.size := by simp [World.setCell]
/-- The boxes of toAnswer: what came in, what is handed out, what is made. -/
structure AB (w w' : World) (s0 s1 s2 u0 u1 u2 : Value) : Prop where
  b0 : w'.heap[w.heap.size]? = some (.cells #[s0, s1, s2] 25)
  b1 : w'.heap[w.heap.size + 1]? = some (.cells #[.slice none 0 0, .slice none 0 0, .slice none 0 0] 30)
  b2 : w'.heap[w.heap.size + 1 + 1]? = some (.cells #[u0, u1, u2] 30)
  bl : Below w.heap.size w w'
theorem AB.lt {w w' : World} {s0 s1 s2 u0 u1 u2 : Value} (h : AB w w' s0 s1 s2 u0 u1 u2) : w.heap.size + 1 + 1 < w'.heap.size := (Array.getElem?_eq_some_iff.1 h.b2).1
theorem AB.next {w w' w2 : World} {s0 s1 s2 u0 u1 u2 : Value} (h : AB w w' s0 s1 s2 u0 u1 u2) (hb : Below w'.heap.size w' w2) : AB w w2 s0 s1 s2 u0 u1 u2 := by
  have hlt := h.lt
  exact ⟨by rw [hb.block _ (by omega)]; exact h.b0, by rw [hb.block _ (by omega)]; exact h.b1, by rw [hb.block _ (by omega)]; exact h.b2, an_next h.bl hb⟩
theorem AB.start (w : World) (s0 s1 s2 : Value) : AB w (((w.alloc (.cells #[s0, s1, s2] 25)).alloc (.cells #[.slice none 0 0, .slice none 0 0, .slice none 0 0] 30)).alloc (.cells #[.slice none 0 0, .slice none 0 0, .slice none 0 0] 30)) s0 s1 s2 (.slice none 0 0) (.slice none 0 0) (.slice none 0 0) := by
  have hk : ∀ (W : World) (o : Obj) (k : Nat), k < W.heap.size → (W.alloc o).heap[k]? = W.heap[k]? := fun W o k h => ((Below.refl _ _).alloc (Nat.le_refl _) o : Below W.heap.size W (W.alloc o)).block k h
  refine ⟨?_, ?_, ?_, ((((Below.refl _ _).alloc (Nat.le_refl _) _).alloc (by simp) _).alloc (by simp; omega) _)⟩
  · rw [hk _ _ _ (by simp; omega), hk _ _ _ (by simp)]
    exact heap_alloc_new w _
  · rw [hk _ _ _ (by simp)]
    have := heap_alloc_new (w.alloc (.cells #[s0, s1, s2] 25)) (.cells #[.slice none 0 0, .slice none 0 0, .slice none 0 0] 30)
    simpa using this
  · have := heap_alloc_new ((w.alloc (.cells #[s0, s1, s2] 25)).alloc (.cells #[.slice none 0 0, .slice none 0 0, .slice none 0 0] 30)) (.cells #[.slice none 0 0, .slice none 0 0, .slice none 0 0] 30)
    simpa using this
theorem AB.cells {w w' : World} {s0 s1 s2 u0 u1 u2 : Value} (h : AB w w' s0 s1 s2 u0 u1 u2) :
    w'.cell? ⟨w.heap.size, 0, none⟩ = some s0 ∧ w'.cell? ⟨w.heap.size, 1, none⟩ = some s1 ∧ w'.cell? ⟨w.heap.size, 2, none⟩ = some s2 ∧ w'.cell? ⟨w.heap.size + 1 + 1, 0, none⟩ = some u0 ∧ w'.cell? ⟨w.heap.size + 1 + 1, 1, none⟩ = some u1 ∧ w'.cell? ⟨w.heap.size + 1 + 1, 2, none⟩ = some u2 ∧ (∀ j, w'.frozen? ⟨w.heap.size + 1 + 1, j, none⟩ = false) ∧ (∀ j, j < 3 → w'.cell? ⟨w.heap.size + 1, j, none⟩ = some (.slice none 0 0)) ∧ (∀ j, w'.frozen? ⟨w.heap.size + 1, j, none⟩ = false) := by
  refine ⟨?_, ?_, ?_, ?_, ?_, ?_, fun j => ?_, fun j hj => ?_, fun j => ?_⟩
  · rw [cell_of_row _ _ _ _ _ _ h.b0]; rfl
  · rw [cell_of_row _ _ _ _ _ _ h.b0]; rfl
  · rw [cell_of_row _ _ _ _ _ _ h.b0]; rfl
  · rw [cell_of_row _ _ _ _ _ _ h.b2]; rfl
  · rw [cell_of_row _ _ _ _ _ _ h.b2]; rfl
  · rw [cell_of_row _ _ _ _ _ _ h.b2]; rfl
  · unfold World.frozen?; rw [h.b2]; simp
  · rw [cell_of_row _ _ _ _ _ _ h.b1]
    match j, hj with
    | 0, _ | 1, _ | 2, _ => rfl
  · unfold World.frozen?; rw [h.b1]; simp
theorem AB.set {w w' : World} {s0 s1 s2 u0 u1 u2 y0 y1 y2 : Value} (h : AB w w' s0 s1 s2 u0 u1 u2) (j : Nat) (x : Value) (hy : (#[u0, u1, u2] : Array Value).setIfInBounds j x = #[y0, y1, y2]) : AB w (w'.setCell ⟨w.heap.size + 1 + 1, j, none⟩ x) s0 s1 s2 y0 y1 y2 := by
  have hk : ∀ k, k ≠ w.heap.size + 1 + 1 → (w'.setCell ⟨w.heap.size + 1 + 1, j, none⟩ x).heap[k]? = w'.heap[k]? := fun k hk => Below.heap_setCell _ _ _ _ hk
  refine ⟨by rw [hk _ (by omega)]; exact h.b0, by rw [hk _ (by omega)]; exact h.b1, ?_, h.bl.setCell (p := ⟨w.heap.size + 1 + 1, j, none⟩) (by dsimp only; omega) _⟩
  unfold World.setCell
  simp only [Array.getElem?_modify]
  rw [h.b2]
  simp [hy]

set_option maxRecDepth 100000 in
set_option maxHeartbeats 2000000 in
theorem law_toAnswer (a : An) (hl : a.outs.length + a.ends.length + a.boxes.length ≤ 1048576) (w : World) (s0 s1 s2 : Value) (hv : AnAt w (· < w.heap.size) a s0 s1 s2) :
    Calls Tryd.prog 6 #[.agg #[s0, s1, s2]] w fun r w' => ∃ t0 t1 t2, r = .returned (.agg #[t0, t1, t2]) ∧ AnAt w' (· < w'.heap.size) a t0 t1 t2 ∧ Below w.heap.size w w' := by
  have hS := AB.start w s0 s1 s2
  have HV : Hid (∀ w' : World, Below w.heap.size w w' → AnAt w' (· < w'.heap.size) a s0 s1 s2) := fun w' h => hv.keep h
  clear hv
  go_enter Tryd.func6, Tryd.ntmps6
  go_upto_region 3 with (go_at_call 12; refine (law_toToldS a.outs (by omega) _ _ (HV.out _ hS.bl).o).mono ?_; rintro r w2 ⟨t0, rfl, hO2, hb2⟩; (obtain ⟨ta0, tc0, rfl⟩ := hO2.slice); have hA2 := hS.next hb2; (obtain ⟨-, -, -, x0, -, -, xf, -, -⟩ := hA2.cells))
  have hA3 := hA2.set 0 (.slice ta0 a.outs.length tc0) (y0 := (.slice ta0 a.outs.length tc0)) (y1 := .slice none 0 0) (y2 := .slice none 0 0) rfl
  have hl3 : w2.heap.size = (w2.setCell ⟨w.heap.size + 1 + 1, 0, none⟩ (.slice ta0 a.outs.length tc0)).heap.size := (set_size _ _ _).symm
  have hR3 : Words (w2.setCell ⟨w.heap.size + 1 + 1, 0, none⟩ (.slice ta0 a.outs.length tc0)) (fun b => w.heap.size + 3 ≤ b ∧ b < (w2.setCell ⟨w.heap.size + 1 + 1, 0, none⟩ (.slice ta0 a.outs.length tc0)).heap.size) a.outs (.slice ta0 a.outs.length tc0) := hO2.same fun b hb => by
    simp at hb
    exact ⟨Below.heap_setCell _ _ _ _ (by show b ≠ w.heap.size + 1 + 1; omega), by omega, by rw [← hl3]; exact hb.2⟩
  clear hO2 hA2 hb2 x0 xf hS hl3
  generalize w2.setCell ⟨w.heap.size + 1 + 1, 0, none⟩ (.slice ta0 a.outs.length tc0) = w3 at *
  obtain ⟨-, x1, -, -, -, -, -, -, -⟩ := hA3.cells
  go_upto_region 4 with (go_at_call 13; refine (law_toIntS a.ends (by omega) _ _ (HV.out _ hA3.bl).e).mono ?_; rintro r w4 ⟨t1, rfl, hO4, hb4⟩; (obtain ⟨ta1, tc1, rfl⟩ := hO4.slice); have hA4 := hA3.next hb4; (obtain ⟨-, -, -, -, x0, -, xf, -, -⟩ := hA4.cells))
  have hA5 := hA4.set 1 (.slice ta1 a.ends.length tc1) (y0 := (.slice ta0 a.outs.length tc0)) (y1 := (.slice ta1 a.ends.length tc1)) (y2 := .slice none 0 0) rfl
  have hl5 : (w4.setCell ⟨w.heap.size + 1 + 1, 1, none⟩ (.slice ta1 a.ends.length tc1)).heap.size = w4.heap.size := set_size _ _ _
  have hz3 := hA3.lt
  have hz4 := hb4.size
  have hk5 : ∀ b, w.heap.size + 3 ≤ b → (w4.setCell ⟨w.heap.size + 1 + 1, 1, none⟩ (.slice ta1 a.ends.length tc1)).heap[b]? = w4.heap[b]? := fun b hb => Below.heap_setCell _ _ _ _ (by show b ≠ w.heap.size + 1 + 1; omega)
  have hR5 : Words (w4.setCell ⟨w.heap.size + 1 + 1, 1, none⟩ (.slice ta1 a.ends.length tc1)) (fun b => w.heap.size + 3 ≤ b ∧ b < (w4.setCell ⟨w.heap.size + 1 + 1, 1, none⟩ (.slice ta1 a.ends.length tc1)).heap.size) a.outs (.slice ta0 a.outs.length tc0) := hR3.same fun b hb => ⟨by rw [hk5 b hb.1]; exact hb4.block b hb.2, hb.1, by omega⟩
  have hE5 : Ints (w4.setCell ⟨w.heap.size + 1 + 1, 1, none⟩ (.slice ta1 a.ends.length tc1)) (fun b => w.heap.size + 3 ≤ b ∧ b < (w4.setCell ⟨w.heap.size + 1 + 1, 1, none⟩ (.slice ta1 a.ends.length tc1)).heap.size) a.ends (.slice ta1 a.ends.length tc1) := hO4.same fun b hb => ⟨hk5 b (by omega), by omega, by omega⟩
  clear hO4 hA4 hb4 x0 x1 xf hA3 hl5 hk5 hR3 hz3 hz4
  generalize w4.setCell ⟨w.heap.size + 1 + 1, 1, none⟩ (.slice ta1 a.ends.length tc1) = w5 at *
  obtain ⟨-, -, x2, -, -, -, -, -, -⟩ := hA5.cells
  go_upto_region 5 with (go_at_call 13; refine (law_toIntS a.boxes (by omega) _ _ (HV.out _ hA5.bl).b).mono ?_; rintro r w6 ⟨t2, rfl, hO6, hb6⟩; (obtain ⟨ta2, tc2, rfl⟩ := hO6.slice); have hA6 := hA5.next hb6; (obtain ⟨-, -, -, -, -, x0, xf, -, -⟩ := hA6.cells))
  have hA7 := hA6.set 2 (.slice ta2 a.boxes.length tc2) (y0 := (.slice ta0 a.outs.length tc0)) (y1 := (.slice ta1 a.ends.length tc1)) (y2 := (.slice ta2 a.boxes.length tc2)) rfl
  have hl7 : (w6.setCell ⟨w.heap.size + 1 + 1, 2, none⟩ (.slice ta2 a.boxes.length tc2)).heap.size = w6.heap.size := set_size _ _ _
  have hz5 := hA5.lt
  have hz6 := hb6.size
  have hk7 : ∀ b, w.heap.size + 3 ≤ b → (w6.setCell ⟨w.heap.size + 1 + 1, 2, none⟩ (.slice ta2 a.boxes.length tc2)).heap[b]? = w6.heap[b]? := fun b hb => Below.heap_setCell _ _ _ _ (by show b ≠ w.heap.size + 1 + 1; omega)
  have hR7 : Words (w6.setCell ⟨w.heap.size + 1 + 1, 2, none⟩ (.slice ta2 a.boxes.length tc2)) (fun b => w.heap.size + 3 ≤ b ∧ b < (w6.setCell ⟨w.heap.size + 1 + 1, 2, none⟩ (.slice ta2 a.boxes.length tc2)).heap.size) a.outs (.slice ta0 a.outs.length tc0) := hR5.same fun b hb => ⟨by rw [hk7 b hb.1]; exact hb6.block b hb.2, hb.1, by omega⟩
  have hE7 : Ints (w6.setCell ⟨w.heap.size + 1 + 1, 2, none⟩ (.slice ta2 a.boxes.length tc2)) (fun b => w.heap.size + 3 ≤ b ∧ b < (w6.setCell ⟨w.heap.size + 1 + 1, 2, none⟩ (.slice ta2 a.boxes.length tc2)).heap.size) a.ends (.slice ta1 a.ends.length tc1) := hE5.same fun b hb => ⟨by rw [hk7 b hb.1]; exact hb6.block b hb.2, hb.1, by omega⟩
  have hX7 : Ints (w6.setCell ⟨w.heap.size + 1 + 1, 2, none⟩ (.slice ta2 a.boxes.length tc2)) (fun b => w.heap.size + 3 ≤ b ∧ b < (w6.setCell ⟨w.heap.size + 1 + 1, 2, none⟩ (.slice ta2 a.boxes.length tc2)).heap.size) a.boxes (.slice ta2 a.boxes.length tc2) := hO6.same fun b hb => ⟨hk7 b (by omega), by omega, by omega⟩
  clear hO6 hA6 hb6 x0 x2 xf hA5 hl7 hk7 hR5 hE5 hz5 hz6
  generalize w6.setCell ⟨w.heap.size + 1 + 1, 2, none⟩ (.slice ta2 a.boxes.length tc2) = w7 at *
  obtain ⟨-, -, -, y0, y1, y2, -, yc, yf⟩ := hA7.cells
  have yc0 := yc 0 (by omega)
  have yc1 := yc 1 (by omega)
  have yc2 := yc 2 (by omega)
  have hz7 := hA7.lt
  clear yc
  go_wp2_with fail
  have hf : ∀ b, w.heap.size + 3 ≤ b → (((w7.setCell ⟨w.heap.size + 1, 0, none⟩ (.slice ta0 a.outs.length tc0)).setCell ⟨w.heap.size + 1, 1, none⟩ (.slice ta1 a.ends.length tc1)).setCell ⟨w.heap.size + 1, 2, none⟩ (.slice ta2 a.boxes.length tc2)).heap[b]? = w7.heap[b]? := fun b hb => by
    rw [Below.heap_setCell _ _ _ _ (by show b ≠ w.heap.size + 1; omega), Below.heap_setCell _ _ _ _ (by show b ≠ w.heap.size + 1; omega), Below.heap_setCell _ _ _ _ (by show b ≠ w.heap.size + 1; omega)]
  have hsz : (((w7.setCell ⟨w.heap.size + 1, 0, none⟩ (.slice ta0 a.outs.length tc0)).setCell ⟨w.heap.size + 1, 1, none⟩ (.slice ta1 a.ends.length tc1)).setCell ⟨w.heap.size + 1, 2, none⟩ (.slice ta2 a.boxes.length tc2)).heap.size = w7.heap.size := by rw [set_size, set_size, set_size]
  refine bodyPost_ret (v := .agg #[(.slice ta0 a.outs.length tc0), (.slice ta1 a.ends.length tc1), (.slice ta2 a.boxes.length tc2)]) (by simp [results, Tryd.results6, go_sem, yc0, yc1, yc2]) rfl ⟨_, _, _, rfl, ⟨?_, ?_, ?_⟩, ?_⟩
  · exact hR7.same fun b hb => ⟨hf b hb.1, by show b < _; rw [hsz]; exact hb.2⟩
  · exact hE7.same fun b hb => ⟨hf b hb.1, by show b < _; rw [hsz]; exact hb.2⟩
  · exact hX7.same fun b hb => ⟨hf b hb.1, by show b < _; rw [hsz]; exact hb.2⟩
  · exact ((hA7.bl.setCell (p := ⟨w.heap.size + 1, 0, none⟩) (by dsimp only; omega) _).setCell (p := ⟨w.heap.size + 1, 1, none⟩) (by dsimp only; omega) _).setCell (p := ⟨w.heap.size + 1, 2, none⟩) (by dsimp only; omega) _
end Go.Proofs.YtnmmhicgodfpcaaDoor
