/-
  The law of HeapClean.
-/
import Derived.Test.YtdgfmjakbemhgaaHcTop
import Derived.Test.YtdgfmjakbemhgaaOwLawW
import Derived.Test.YtdgfmjakbemhgaaCeOwn
import Derived.Test.YtdgfmjakbemhgaaWdOwn
import Derived.Test.YtdgfmjakbemhgaaMkCell
import Derived.Test.YtdgfmjakbemhgaaHdCell
import Derived.Test.YtdgfmjakbemhgaaMkWord
import Derived.Test.YtdgfmjakbemhgaaHdWord
namespace Go.Proofs.Ytdgfmjakbemhgaa
open Go.RowKit

/-- All that the law holds. -/
structure Six (w : World) (N0 N3 N4 N5 N6 : Nat) (cs rc : List Ce) (ws rw' : List Wd) (s0 s1 x0 x1 g0 g1 : Value) : Prop where
  a : OwnC w N0 N3 rc s0
  b : OwnW w N0 N3 rw' s1
  c : OwnC w N3 N4 cs x0
  d : OwnW w N4 N5 ws x1
  e : OwnC w N5 N6 rc g0
  f : OwnW w N5 N6 rw' g1
theorem Six.keep {w w' : World} {N0 N3 N4 N5 N6 : Nat} {cs rc : List Ce} {ws rw' : List Wd} {s0 s1 x0 x1 g0 g1 : Value} (h : Six w N0 N3 N4 N5 N6 cs rc ws rw' s0 s1 x0 x1 g0 g1) (hb : Below w.heap.size w w') : Six w' N0 N3 N4 N5 N6 cs rc ws rw' s0 s1 x0 x1 g0 g1 :=
  ⟨h.a.keep hb, h.b.keep hb, h.c.keep hb, h.d.keep hb, h.e.keep hb, h.f.keep hb⟩
theorem copy_len (cs : List Ce) (ws : List Wd) : (cleanC cs ws).length ≤ 1000 ∧ (cleanW cs ws).length ≤ ws.length := by
  constructor
  · unfold cleanC
    split
    · rename_i h
      obtain ⟨h120, hrefs⟩ := heap_refs h.1
      have hI := Inv.words hrefs ws _ (inv0 cs []) (words_refs h.2)
      have key : ∀ (n : Nat) (s : St) (i : Nat), Inv cs 0 i s → (loopS cs n s i).to.length ≤ cs.length := by
        intro n
        induction n with
        | zero => intro s i h; have := h.le; simpa [loopS] using this
        | succ n ih =>
          intro s i h
          rw [loopS]
          split
          · rename_i hi; exact ih _ _ (h.step hrefs hi)
          · have := h.le; simpa using this
      have := key (cs.length + 1) _ _ hI
      unfold copyS
      simp only [List.length_nil] at *
      omega
    · simp
  · unfold cleanW
    split
    · rw [wordsW_length]; exact Nat.le_refl _
    · simp

set_option maxHeartbeats 4000000 in
theorem law_HeapClean (cs : List Ce) (hlen : cs.length ≤ maxLen) (ws : List Wd) (hwlen : ws.length ≤ maxLen) (w : World) (v vw : Value) (hv : Cells w (· < w.heap.size) cs v) (hvw : Words w (· < w.heap.size) ws vw) :
    Calls Try.prog 3 #[v, vw] w fun r w' => r = .returned (.bool true) ∧ Below w.heap.size w w' := by
  obtain ⟨a, cap, rfl⟩ := hv.slice
  obtain ⟨wa, wcap, rfl⟩ := hvw.slice
  go_enter Try.func3, Try.ntmps3
  go_upto_region 5 with (go_at_call 4; refine (law_szCellL cs hlen _ a cap 1048576 (by omega)).mono ?_; rintro r w2 ⟨⟨n, rfl, hn1, hn2⟩, hww⟩; have hw2 := hww.symm; clear hww; subst hw2; have hwee : Hid (0 ≤ n → cs.length ≤ 1048576) := hn2; clear hn2)
  · go_ret
    exact ⟨rfl, Below.refl _ _⟩
  have hl := hwee.out (by omega)
  clear hwee
  obtain ⟨n', rfl⟩ : ∃ n' : Nat, n = (n' : Int) := ⟨n.toNat, by omega⟩
  have hszw := fun w => law_szWordL ws hwlen w wa wcap n' (by omega)
  go_upto_region 8 with (go_at_call 5; refine (hszw _).mono ?_; rintro r w2 ⟨⟨m, rfl, hm1, hm2⟩, hww⟩; have hw2 := hww.symm; clear hww; subst hw2; have hwee : Hid (0 ≤ m → ws.length ≤ n') := hm2; clear hm2)
  · go_ret
    exact ⟨rfl, Below.refl _ _⟩
  have hwl : ws.length ≤ 1048576 := by have := hwee.out (by omega); omega
  clear hwee hszw
  obtain ⟨hcl, hcw⟩ := copy_len cs ws
  have hS := fun w' v vw hv hvw => spec_HeapClean cs hl ws hwl v vw w' hv hvw
  have hI := fun w' v vw hv hvw => impl_HeapClean cs hl ws hwl v vw w' hv hvw
  generalize cleanC cs ws = rc at *
  generalize cleanW cs ws = rw' at *
  have hcw' : rw'.length ≤ 1048576 := by omega
  have hcl' : rc.length ≤ 1048576 := by omega
  go_upto_region 9 with (first
    | (go_at_call 7; refine (own_toCellS cs hl _ _ hv).mono ?_; rintro r w1 ⟨v1, rfl, hO1, hb1⟩)
    | (go_at_call 8; refine (own_toWordS ws hwl _ _ (hvw.keep hb1 hb1.size)).mono ?_; rintro r w2 ⟨v2, rfl, hO2, hb2⟩)
    | (go_at_call 6; refine (hS _ _ _ (OwnC.row (lo := w.heap.size) (hi := w2.heap.size) ⟨ow_keep hO1 hb2, fun k hk => ((ow_keep hO1 hb2).lt k hk).2⟩) (OwnW.row (lo := w1.heap.size) (hi := w2.heap.size) ⟨hO2, fun k hk => (hO2.lt k hk).2⟩)).mono ?_; rintro r w3 ⟨s0, s1, rfl, hs0, hs1, hb3⟩; have hB3 := hc_next (hc_next hb1 hb2) hb3))
  have S0 : OwnC w3 w.heap.size w3.heap.size rc s0 := ⟨ow_base hs0 (hc_next hb1 hb2).size, fun k hk => (hs0.lt k hk).2⟩
  have S1 : OwnW w3 w.heap.size w3.heap.size rw' s1 := ⟨ow_base hs1 (hc_next hb1 hb2).size, fun k hk => (hs1.lt k hk).2⟩
  have hv3 := hv.keep hB3 hB3.size
  have hvw3 := hvw.keep hB3 hB3.size
  clear hO1 hb1 hO2 hb2 hs0 hs1 hb3
  go_upto_region 12 with (first
    | (go_at_call 7; refine (own_toCellS cs hl _ _ hv3).mono ?_; rintro r w4 ⟨x0, rfl, hO4, hb4⟩)
    | (go_at_call 8; refine (own_toWordS ws hwl _ _ (hvw3.keep hb4 hb4.size)).mono ?_; rintro r w5 ⟨x1, rfl, hO5, hb5⟩)
    | (go_at_call 9; refine (hI _ _ _ (OwnC.row (lo := w3.heap.size) (hi := w5.heap.size) ⟨ow_keep hO4 hb5, fun k hk => ((ow_keep hO4 hb5).lt k hk).2⟩) (OwnW.row (lo := w4.heap.size) (hi := w5.heap.size) ⟨hO5, fun k hk => (hO5.lt k hk).2⟩)).mono ?_; rintro r w6 ⟨⟨g0, g1, rfl, hg0, hg1, hb6⟩, htwo⟩))
  have h2 := htwo g0 g1 rfl
  have hB6 := hc_next (hc_next (hc_next hB3 hb4) hb5) hb6
  have A6 : Six w6 w.heap.size w3.heap.size w4.heap.size w5.heap.size w6.heap.size cs rc ws rw' s0 s1 x0 x1 g0 g1 := ⟨((S0.keep hb4).keep hb5).keep hb6, ((S1.keep hb4).keep hb5).keep hb6, OwnC.keep (OwnC.keep ⟨hO4, fun k hk => (hO4.lt k hk).2⟩ hb5) hb6, OwnW.keep ⟨hO5, fun k hk => (hO5.lt k hk).2⟩ hb6, ⟨hg0, fun k hk => (hg0.lt k hk).2⟩, ⟨hg1, fun k hk => (hg1.lt k hk).2⟩⟩
  have z3 := hB3.size
  have z4 := hb4.size
  have z5 := hb5.size
  have z6 := hb6.size
  clear hO4 hb4 hO5 hb5 hg0 hg1 hb6 htwo S0 S1 hv3 hvw3 hB3
  obtain ⟨N3, hN3⟩ : ∃ N, N = w3.heap.size := ⟨_, rfl⟩
  obtain ⟨N4, hN4⟩ : ∃ N, N = w4.heap.size := ⟨_, rfl⟩
  obtain ⟨N5, hN5⟩ : ∃ N, N = w5.heap.size := ⟨_, rfl⟩
  obtain ⟨N6, hN6⟩ : ∃ N, N = w6.heap.size := ⟨_, rfl⟩
  rw [← hN3, ← hN4, ← hN5, ← hN6] at A6
  rw [← hN3] at z3 z4
  rw [← hN4] at z4 z5
  rw [← hN5] at z5 z6
  clear hN3 hN4 hN5 hN6
  go_upto_region 14 with (first
    | (go_at_call 10; refine (law_eqCellS rc hcl' _ _ _ A6.e.row A6.a.row).mono ?_; rintro r w7 ⟨rfl, hb7⟩; have A7 := A6.keep hb7; have hB7 := hc_next hB6 hb7)
    | (go_at_call 11; refine (law_eqWordS rw' hcw' _ _ _ A7.f.row A7.b.row).mono ?_; rintro r w8 ⟨rfl, hb8⟩; have A8 := A7.keep hb8; have hB8 := hc_next hB7 hb8))
  clear hb7 hb8 A7 hB7 hB6
  go_upto_region 16 with (first
    | (go_at_call 7; refine (law_toCellS cs hl _ _ (hv.keep hB8 hB8.size)).mono ?_; rintro r w9 ⟨y9, rfl, hy9, hb9⟩; have A9 := A8.keep hb9; have hB9 := hc_next hB8 hb9)
    | (go_at_call 10; refine (law_eqCellS cs hl _ _ _ A9.c.row (hy9.same fun _ hb => ⟨rfl, hb.2⟩)).mono ?_; rintro r w10 ⟨rfl, hb10⟩; have A10 := A9.keep hb10; have hB10 := hc_next hB9 hb10))
  clear hy9 hb9 hb10 A8 A9 hB8 hB9
  go_upto_region 18 with (first
    | (go_at_call 8; refine (law_toWordS ws hwl _ _ (hvw.keep hB10 hB10.size)).mono ?_; rintro r w11 ⟨y11, rfl, hy11, hb11⟩; have A11 := A10.keep hb11; have hB11 := hc_next hB10 hb11)
    | (go_at_call 11; refine (law_eqWordS ws hwl _ _ _ A11.d.row (hy11.same fun _ hb => ⟨rfl, hb.2⟩)).mono ?_; rintro r w12 ⟨rfl, hb12⟩; have A12 := A11.keep hb12; have hB12 := hc_next hB11 hb12))
  clear hy11 hb11 hb12 A10 A11 hB10 hB11
  obtain ⟨k1, hk1⟩ : ∃ k, k = 1 + cs.length * 6 := ⟨_, rfl⟩
  obtain ⟨k2, hk2⟩ : ∃ k, k = k1 + ws.length * 2 := ⟨_, rfl⟩
  obtain ⟨m1, hm1'⟩ : ∃ k, k = 1 + rc.length * 6 := ⟨_, rfl⟩
  obtain ⟨m2, hm2'⟩ : ∃ k, k = m1 + rw'.length * 2 := ⟨_, rfl⟩
  have bk1 : k1 ≤ 10000000 := by omega
  have bm1 : m1 ≤ 10000000 := by omega
  have mx0 : ∀ w x, OwnC w N3 N4 cs x → Calls Try.prog 12 #[x, .int .i64 1] w fun r w' => r = .returned (.int .i64 (k1 : Int)) ∧ w.grownBy w' x.ownBlock := fun w x h => (law_markCellS cs.length _ x w N3 1 (by omega) (by omega) h.1).mono fun r w' ⟨h1, _, h3⟩ => ⟨by rw [h1, hk1], h3⟩
  have mx1 : ∀ w x, OwnW w N4 N5 ws x → Calls Try.prog 13 #[x, .int .i64 (k1 : Int)] w fun r w' => r = .returned (.int .i64 (k2 : Int)) ∧ w.grownBy w' x.ownBlock := fun w x h => (law_markWordS ws.length _ x w N4 k1 (by omega) bk1 h.1).mono fun r w' ⟨h1, _, h3⟩ => ⟨by rw [h1, hk2], h3⟩
  have mg0 : ∀ w x, OwnC w N5 N6 rc x → Calls Try.prog 12 #[x, .int .i64 1] w fun r w' => r = .returned (.int .i64 (m1 : Int)) ∧ MarkC w' N5 rc.length 1 x ∧ w.grownBy w' x.ownBlock := fun w x h => (law_markCellS rc.length _ x w N5 1 (by omega) (by omega) h.1).mono fun r w' ⟨h1, h2, h3⟩ => ⟨by rw [h1, hm1'], h2, h3⟩
  have mg1 : ∀ w x, OwnW w N5 N6 rw' x → Calls Try.prog 13 #[x, .int .i64 (m1 : Int)] w fun r w' => r = .returned (.int .i64 (m2 : Int)) ∧ MarkW w' N5 rw'.length m1 x ∧ w.grownBy w' x.ownBlock := fun w x h => (law_markWordS rw'.length _ x w N5 m1 (by omega) bm1 h.1).mono fun r w' ⟨h1, h2, h3⟩ => ⟨by rw [h1, hm2'], h2, h3⟩
  have hh0 : ∀ w x, MarkC w N5 rc.length 1 x → Calls Try.prog 14 #[x, .int .i64 1] w fun r w' => r = .returned (.int .i64 (m1 : Int)) ∧ w' = w := fun w x h => (law_heldCellS rc.length 1 x w N5 (by omega) (by omega) h).mono fun r w' ⟨h1, h2⟩ => ⟨by rw [h1, hm1'], h2⟩
  have hh1 : ∀ w x, MarkW w N5 rw'.length m1 x → Calls Try.prog 15 #[x, .int .i64 (m1 : Int)] w fun r w' => r = .returned (.int .i64 (m2 : Int)) ∧ w' = w := fun w x h => (law_heldWordS rw'.length m1 x w N5 (by omega) bm1 h).mono fun r w' ⟨h1, h2⟩ => ⟨by rw [h1, hm2'], h2⟩
  clear hk1 hk2 hm1' hm2'
  go_upto_region 21 with (first
    | (go_at_call 12; refine (mx0 _ _ A12.c).mono ?_; rintro r w13 ⟨rfl, hg13⟩)
    | (go_at_call 13; refine (mx1 _ _ (A12.d.but hg13 (far' A12.c.2 (fun k hk => (A12.d.1.lt k hk).1)))).mono ?_; rintro r w14 ⟨rfl, hg14⟩))
  have fx0 : ∀ k, x0.ownBlock = some k → N3 ≤ k := fun k hk => (A12.c.1.lt k hk).1
  have fx1 : ∀ k, x1.ownBlock = some k → N4 ≤ k := fun k hk => (A12.d.1.lt k hk).1
  have fg0 : ∀ k, g0.ownBlock = some k → N5 ≤ k := fun k hk => (A12.e.1.lt k hk).1
  have fg1 : ∀ k, g1.ownBlock = some k → N5 ≤ k := fun k hk => (A12.f.1.lt k hk).1
  have S0 := (A12.a.but hg13 (far A12.a.2 fx0)).but hg14 (far (N := N3) A12.a.2 (fun k hk => Nat.le_trans z4 (fx1 k hk)))
  have S1 := (A12.b.but hg13 (far A12.b.2 fx0)).but hg14 (far (N := N3) A12.b.2 (fun k hk => Nat.le_trans z4 (fx1 k hk)))
  have G0 := (A12.e.but hg13 (far' (N := N5) (fun k hk => Nat.lt_of_lt_of_le (A12.c.2 k hk) z5) fg0)).but hg14 (far' A12.d.2 fg0)
  have G1 := (A12.f.but hg13 (far' (N := N5) (fun k hk => Nat.lt_of_lt_of_le (A12.c.2 k hk) z5) fg1)).but hg14 (far' A12.d.2 fg1)
  have hB14 := (hB12.grown hg13 hB12.size (fun k hk => Nat.le_trans z3 (fx0 k hk))).grown hg14 (Nat.le_trans hB12.size hg13.size) (fun k hk => Nat.le_trans z3 (Nat.le_trans z4 (fx1 k hk)))
  clear hg13 hg14 A12 hB12 mx0 mx1
  go_upto_region 23 with (first
    | (go_at_call 10; refine (law_eqCellS rc hcl' _ _ _ G0.row S0.row).mono ?_; rintro r w15 ⟨rfl, hb15⟩; have G0' := G0.keep hb15; have G1' := G1.keep hb15; have S0' := S0.keep hb15; have S1' := S1.keep hb15; have hB15 := hc_next hB14 hb15)
    | (go_at_call 11; refine (law_eqWordS rw' hcw' _ _ _ G1'.row S1'.row).mono ?_; rintro r w16 ⟨rfl, hb16⟩; have G0w := G0'.keep hb16; have G1w := G1'.keep hb16; have S0w := S0'.keep hb16; have S1w := S1'.keep hb16; have hB16 := hc_next hB15 hb16))
  clear G0 G1 S0 S1 G0' G1' S0' S1' hb15 hb16 hB14 hB15
  have hne : ∀ k, g0.ownBlock = some k → g1.ownBlock ≠ some k := fun k hk e => by
    rcases h2 with h | h
    · rw [hk] at h; cases h
    · exact h (by rw [hk, e])
  have hne' : ∀ k, g1.ownBlock = some k → g0.ownBlock ≠ some k := fun k hk e => hne k e hk
  go_upto_region 26 with (first
    | (go_at_call 12; refine (mg0 _ _ G0w).mono ?_; rintro r w17 ⟨rfl, M17, hg17⟩)
    | (go_at_call 13; refine (mg1 _ _ (G1w.but hg17 hne)).mono ?_; rintro r w18 ⟨rfl, N18, hg18⟩))
  have M18 : MarkC w18 N5 rc.length 1 g0 := mk_but M17 hg18 hne'
  have fs : ∀ (v : Value), (∀ k, v.ownBlock = some k → k < N3) → ∀ (g : Value), (∀ k, g.ownBlock = some k → N5 ≤ k) → ∀ k, g.ownBlock = some k → v.ownBlock ≠ some k := fun v h1 g h2 => far (N := N3) h1 (fun k hk => by have := h2 k hk; omega)
  have S0 := (S0w.but hg17 (fs _ S0w.2 _ fg0)).but hg18 (fs _ S0w.2 _ fg1)
  have S1 := (S1w.but hg17 (fs _ S1w.2 _ fg0)).but hg18 (fs _ S1w.2 _ fg1)
  have hB18 := (hB16.grown hg17 hB16.size (fun k hk => by have := fg0 k hk; omega)).grown hg18 (Nat.le_trans hB16.size hg17.size) (fun k hk => by have := fg1 k hk; omega)
  clear G0w G1w S0w S1w hg17 hg18 M17 hB16 mg0 mg1 hne hne' fs
  go_upto_region 35 with (first
    | (go_at_call 14; refine (hh0 _ _ M18).mono ?_; rintro r w19 ⟨rfl, e19⟩; have e19' := e19.symm; clear e19; subst e19')
    | (go_at_call 15; refine (hh1 _ _ N18).mono ?_; rintro r w20 ⟨rfl, e20⟩; have e20' := e20.symm; clear e20; subst e20'))
  have hv18 := hv.keep hB18 hB18.size
  have hvw18 := hvw.keep hB18 hB18.size
  go_upto_region 36 with (first
    | (go_at_call 7; refine (own_toCellS cs hl _ _ hv18).mono ?_; rintro r w21 ⟨v21, rfl, hO21, hb21⟩)
    | (go_at_call 8; refine (own_toWordS ws hwl _ _ (hvw18.keep hb21 hb21.size)).mono ?_; rintro r w22 ⟨v22, rfl, hO22, hb22⟩)
    | (go_at_call 9; refine (hI _ _ _ (OwnC.row (lo := w18.heap.size) (hi := w22.heap.size) ⟨ow_keep hO21 hb22, fun k hk => ((ow_keep hO21 hb22).lt k hk).2⟩) (OwnW.row (lo := w21.heap.size) (hi := w22.heap.size) ⟨hO22, fun k hk => (hO22.lt k hk).2⟩)).mono ?_; rintro r w23 ⟨⟨h0, h1, rfl, hh0', hh1', hb23⟩, _⟩))
  have hb1823 := hc_next (hc_next hb21 hb22) hb23
  have H0 : OwnC w23 w22.heap.size w23.heap.size rc h0 := ⟨hh0', fun k hk => (hh0'.lt k hk).2⟩
  have H1 : OwnW w23 w22.heap.size w23.heap.size rw' h1 := ⟨hh1', fun k hk => (hh1'.lt k hk).2⟩
  have S0x := S0.keep hb1823
  have S1x := S1.keep hb1823
  have M23 : MarkC w23 N5 rc.length 1 g0 := ow_keep M18 hb1823
  have N23 : MarkW w23 N5 rw'.length m1 g1 := ow_keep N18 hb1823
  have hB23 := hc_next hB18 hb1823
  clear hO21 hb21 hO22 hb22 hh0' hh1' hb23 S0 S1 M18 N18 hB18 hv18 hvw18 hb1823
  go_upto_region 38 with (first
    | (go_at_call 10; refine (law_eqCellS rc hcl' _ _ _ H0.row S0x.row).mono ?_; rintro r w24 ⟨rfl, hb24⟩; have H1' := H1.keep hb24; have S1' := S1x.keep hb24; have hB24 := hc_next hB23 hb24; have M24 : MarkC w24 N5 rc.length 1 g0 := ow_keep M23 hb24; have N24 : MarkW w24 N5 rw'.length m1 g1 := ow_keep N23 hb24)
    | (go_at_call 11; refine (law_eqWordS rw' hcw' _ _ _ H1'.row S1'.row).mono ?_; rintro r w25 ⟨rfl, hb25⟩; have hB25 := hc_next hB24 hb25; have M25 : MarkC w25 N5 rc.length 1 g0 := ow_keep M24 hb25; have N25 : MarkW w25 N5 rw'.length m1 g1 := ow_keep N24 hb25))
  clear H0 H1 H1' S0x S1x S1' M23 N23 M24 N24 hB23 hB24 hb24 hb25
  go_wp2_with (first
    | (go_at_call 14; refine (hh0 _ _ M25).mono ?_; rintro r w26 ⟨rfl, e26⟩; have e26' := e26.symm; clear e26; subst e26')
    | (go_at_call 15; refine (hh1 _ _ N25).mono ?_; rintro r w27 ⟨rfl, e27⟩; have e27' := e27.symm; clear e27; subst e27'))
  go_ret
  exact ⟨rfl, hB25⟩
end Go.Proofs.Ytdgfmjakbemhgaa
