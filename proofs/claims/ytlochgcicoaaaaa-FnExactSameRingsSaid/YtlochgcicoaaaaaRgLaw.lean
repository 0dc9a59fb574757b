/-
  The law of SameRings, from what the program's SameRings is shown to answer.
-/
import Derived.Test.YtlochgcicoaaaaaRgSpec
import Derived.Test.YtlochgcicoaaaaaCeRow
import Derived.Test.YtlochgcicoaaaaaOwLaw
import Derived.Test.YtlochgcicoaaaaaCeOwn
import Derived.Test.YtlochgcicoaaaaaMkCell
import Derived.Test.YtlochgcicoaaaaaMkInt
import Derived.Deep.Cut
namespace Go.Proofs.Ytlochgcicoaaaaa
open Go.RowKit

/-- All that the law holds. -/
structure Tri (w : World) (N0 N3 N4 N6 : Nat) (cs : List Ce) (l : List Nat) (s0 x0 g0 : Value) : Prop where
  a : OwnI w N0 N3 l s0
  c : OwnC w N3 N4 cs x0
  e : OwnI w N4 N6 l g0
theorem Tri.keep {w w' : World} {N0 N3 N4 N6 : Nat} {cs : List Ce} {l : List Nat} {s0 x0 g0 : Value} (h : Tri w N0 N3 N4 N6 cs l s0 x0 g0) (hb : Below w.heap.size w w') : Tri w' N0 N3 N4 N6 cs l s0 x0 g0 :=
  ⟨h.a.keep hb, h.c.keep hb, h.e.keep hb⟩
theorem rings_len (cs : List Ce) : (ringsM cs).length ≤ 1000 := by
  unfold ringsM
  split
  · rename_i h
    have h120 := (heap_refs h).1
    have := takenTo_le (ringsB cs) (ringsB cs).length
    have e := ringsB_length cs
    rw [takenM]
    omega
  · simp
/-- A row of marks. -/
def MarkN (w : World) (lo n k : Nat) (v : Value) : Prop := w.ownsRow lo 3 1 v n (marksI n k)

set_option maxHeartbeats 4000000 in
theorem law_SameRings (HI : ∀ (cs : List Ce) (_ : cs.length ≤ 1048576) (v : Value) (w : World) (_ : Cells w (· < w.heap.size) cs v), Calls Try.prog 7 #[v] w fun r w' => ReachR w w' (ringsM cs) r) (cs : List Ce) (hlen : cs.length ≤ maxLen) (w : World) (v : Value) (hv : Cells w (· < w.heap.size) cs v) :
    Calls Try.prog 3 #[v] w fun r w' => r = .returned (.bool true) ∧ Below w.heap.size w w' := by
  obtain ⟨a, cap, rfl⟩ := hv.slice
  go_enter Try.func3, Try.ntmps3
  go_upto_region 5 with (go_at_call 4; refine (law_szCellS cs hlen _ a cap).mono ?_; rintro r w2 ⟨⟨n, rfl, hw⟩, hww⟩; have hw2 := hww.symm; clear hww; subst hw2; have hwee : Hid (0 ≤ n → cs.length ≤ 1048576) := hw; clear hw)
  · go_ret
    exact ⟨rfl, Below.refl _ _⟩
  have hl := hwee.out (by omega)
  clear hwee
  have hcl := rings_len cs
  have hS := fun w' v hv => spec_SameRings cs hl v w' hv
  have hI := fun w' v hv => HI cs hl v w' hv
  clear HI
  generalize ringsM cs = rl at *
  have hcl' : rl.length ≤ 1000000 := by omega
  go_upto_region 6 with (first
    | (go_at_call 6; refine (own_toCellS cs hl _ _ hv).mono ?_; rintro r w1 ⟨v1, rfl, hO1, hb1⟩)
    | (go_at_call 5; refine (hS _ _ (OwnC.row (lo := w.heap.size) (hi := w1.heap.size) ⟨hO1, fun k hk => (hO1.lt k hk).2⟩)).mono ?_; rintro r w3 ⟨s0, rfl, hs0, hb3⟩; have hB3 := hc_next hb1 hb3))
  have S0 : OwnI w3 w.heap.size w3.heap.size rl s0 := ⟨ow_base hs0 hb1.size, fun k hk => (hs0.lt k hk).2⟩
  have hv3 := hv.keep hB3 hB3.size
  clear hO1 hb1 hs0 hb3
  go_upto_region 8 with (first
    | (go_at_call 6; refine (own_toCellS cs hl _ _ hv3).mono ?_; rintro r w4 ⟨x0, rfl, hO4, hb4⟩)
    | (go_at_call 7; refine (hI _ _ (OwnC.row (lo := w3.heap.size) (hi := w4.heap.size) ⟨hO4, fun k hk => (hO4.lt k hk).2⟩)).mono ?_; rintro r w6 ⟨g0, rfl, hg0, hb6⟩))
  have hB6 := hc_next (hc_next hB3 hb4) hb6
  have A6 : Tri w6 w.heap.size w3.heap.size w4.heap.size w6.heap.size cs rl s0 x0 g0 := ⟨(S0.keep hb4).keep hb6, OwnC.keep ⟨hO4, fun k hk => (hO4.lt k hk).2⟩ hb6, ⟨hg0, fun k hk => (hg0.lt k hk).2⟩⟩
  have z3 := hB3.size
  have z4 := hb4.size
  have z6 := hb6.size
  clear hO4 hb4 hg0 hb6 S0 hv3 hB3
  obtain ⟨N3, hN3⟩ : ∃ N, N = w3.heap.size := ⟨_, rfl⟩
  obtain ⟨N4, hN4⟩ : ∃ N, N = w4.heap.size := ⟨_, rfl⟩
  obtain ⟨N6, hN6⟩ : ∃ N, N = w6.heap.size := ⟨_, rfl⟩
  rw [← hN3, ← hN4, ← hN6] at A6
  rw [← hN3] at z3 z4
  rw [← hN4] at z4 z6
  clear hN3 hN4 hN6
  go_upto_region 10 with (go_at_call 8; refine (law_eqIntS rl hcl' _ _ _ _ _ _ _ A6.e A6.a).mono ?_; rintro r w8 ⟨rfl, hb8⟩; have A8 := A6.keep hb8; have hB8 := hc_next hB6 hb8)
  clear hb8 hB6 A6
  go_upto_region 12 with (first
    | (go_at_call 6; refine (law_toCellS cs hl _ _ (hv.keep hB8 hB8.size)).mono ?_; rintro r w9 ⟨y9, rfl, hy9, hb9⟩; have A9 := A8.keep hb9; have hB9 := hc_next hB8 hb9)
    | (go_at_call 9; refine (law_eqCellS cs hl _ _ _ A9.c.row (hy9.same fun _ hb => ⟨rfl, hb.2⟩)).mono ?_; rintro r w10 ⟨rfl, hb10⟩; have A10 := A9.keep hb10; have hB10 := hc_next hB9 hb10))
  clear hy9 hb9 hb10 A8 A9 hB8 hB9
  obtain ⟨k1, hk1⟩ : ∃ k, k = 1 + cs.length * 6 := ⟨_, rfl⟩
  obtain ⟨m1, hm1'⟩ : ∃ k, k = 1 + rl.length := ⟨_, rfl⟩
  have mx0 : ∀ w x, OwnC w N3 N4 cs x → Calls Try.prog 10 #[x, .int .i64 1] w fun r w' => r = .returned (.int .i64 (k1 : Int)) ∧ w.grownBy w' x.ownBlock := fun w x h => (law_markCellS cs.length _ x w N3 1 (by omega) (by omega) h.1).mono fun r w' ⟨h1, _, h3⟩ => ⟨by rw [h1, hk1], h3⟩
  have mg0 : ∀ w x, OwnI w N4 N6 rl x → Calls Try.prog 11 #[x, .int .i64 1] w fun r w' => r = .returned (.int .i64 (m1 : Int)) ∧ MarkN w' N4 rl.length 1 x ∧ w.grownBy w' x.ownBlock := fun w x h => (law_markIntS rl.length _ x w N4 1 (by omega) (by omega) h.1).mono fun r w' ⟨h1, h2, h3⟩ => ⟨by rw [h1, hm1'], h2, h3⟩
  have hh0 : ∀ w x, MarkN w N4 rl.length 1 x → Calls Try.prog 12 #[x, .int .i64 1] w fun r w' => r = .returned (.int .i64 (m1 : Int)) ∧ w' = w := fun w x h => (law_heldIntS rl.length 1 x w N4 (by omega) (by omega) h).mono fun r w' ⟨h1, h2⟩ => ⟨by rw [h1, hm1'], h2⟩
  clear hk1 hm1'
  go_upto_region 14 with (go_at_call 10; refine (mx0 _ _ A10.c).mono ?_; rintro r w13 ⟨rfl, hg13⟩)
  have fx0 : ∀ k, x0.ownBlock = some k → N3 ≤ k := fun k hk => (A10.c.1.lt k hk).1
  have fg0 : ∀ k, g0.ownBlock = some k → N4 ≤ k := fun k hk => (A10.e.1.lt k hk).1
  have S0 := A10.a.but hg13 (far A10.a.2 fx0)
  have G0 := A10.e.but hg13 (far' A10.c.2 fg0)
  have hB14 := hB10.grown hg13 hB10.size (fun k hk => Nat.le_trans z3 (fx0 k hk))
  clear hg13 A10 hB10 mx0
  go_upto_region 16 with (go_at_call 8; refine (law_eqIntS rl hcl' _ _ _ _ _ _ _ G0 S0).mono ?_; rintro r w16 ⟨rfl, hb16⟩; have G0w := G0.keep hb16; have S0w := S0.keep hb16; have hB16 := hc_next hB14 hb16)
  clear G0 S0 hb16 hB14
  go_upto_region 19 with (go_at_call 11; refine (mg0 _ _ G0w).mono ?_; rintro r w17 ⟨rfl, M17, hg17⟩)
  have S0 := S0w.but hg17 (far (N := N3) S0w.2 (fun k hk => by have := fg0 k hk; omega))
  have hB17 := hB16.grown hg17 hB16.size (fun k hk => by have := fg0 k hk; omega)
  clear G0w S0w hg17 hB16 mg0
  go_upto_region 24 with (go_at_call 12; refine (hh0 _ _ M17).mono ?_; rintro r w19 ⟨rfl, e19⟩; have e19' := e19.symm; clear e19; subst e19')
  have hv18 := hv.keep hB17 hB17.size
  go_upto_region 25 with (first
    | (go_at_call 6; refine (own_toCellS cs hl _ _ hv18).mono ?_; rintro r w21 ⟨v21, rfl, hO21, hb21⟩)
    | (go_at_call 7; refine (hI _ _ (OwnC.row (lo := w17.heap.size) (hi := w21.heap.size) ⟨hO21, fun k hk => (hO21.lt k hk).2⟩)).mono ?_; rintro r w23 ⟨h0, rfl, hh0', hb23⟩))
  have hb1723 := hc_next hb21 hb23
  have H0 : OwnI w23 w21.heap.size w23.heap.size rl h0 := ⟨hh0', fun k hk => (hh0'.lt k hk).2⟩
  have S0x := S0.keep hb1723
  have M23 : MarkN w23 N4 rl.length 1 g0 := ow_keep M17 hb1723
  have hB23 := hc_next hB17 hb1723
  clear hO21 hb21 hh0' hb23 S0 M17 hB17 hv18 hb1723
  go_upto_region 27 with (go_at_call 8; refine (law_eqIntS rl hcl' _ _ _ _ _ _ _ H0 S0x).mono ?_; rintro r w25 ⟨rfl, hb25⟩; have hB25 := hc_next hB23 hb25; have M25 : MarkN w25 N4 rl.length 1 g0 := ow_keep M23 hb25)
  clear H0 S0x M23 hB23 hb25
  go_wp2_with (go_at_call 12; refine (hh0 _ _ M25).mono ?_; rintro r w26 ⟨rfl, e26⟩; have e26' := e26.symm; clear e26; subst e26')
  go_ret
  exact ⟨rfl, hB25⟩
end Go.Proofs.Ytlochgcicoaaaaa
