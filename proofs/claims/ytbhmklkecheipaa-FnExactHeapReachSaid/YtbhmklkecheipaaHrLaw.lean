/-
  The law of HeapReach.
-/
import Derived.Test.YtbhmklkecheipaaHrTop
import Derived.Test.YtbhmklkecheipaaOwLawW
import Derived.Test.YtbhmklkecheipaaCeOwn
import Derived.Test.YtbhmklkecheipaaWdOwn
import Derived.Test.YtbhmklkecheipaaMkCell
import Derived.Test.YtbhmklkecheipaaMkWord
import Derived.Test.YtbhmklkecheipaaMkInt
import Derived.Deep.Cut
namespace Go.Proofs.Ytbhmklkecheipaa
open Go.RowKit

/-- All that the law holds. -/
structure Fou (w : World) (N0 N3 N4 N5 N6 : Nat) (cs : List Ce) (ws : List Wd) (l : List Nat) (s0 x0 x1 g0 : Value) : Prop where
  a : OwnI w N0 N3 l s0
  c : OwnC w N3 N4 cs x0
  d : OwnW w N4 N5 ws x1
  e : OwnI w N5 N6 l g0
theorem Fou.keep {w w' : World} {N0 N3 N4 N5 N6 : Nat} {cs : List Ce} {ws : List Wd} {l : List Nat} {s0 x0 x1 g0 : Value} (h : Fou w N0 N3 N4 N5 N6 cs ws l s0 x0 x1 g0) (hb : Below w.heap.size w w') : Fou w' N0 N3 N4 N5 N6 cs ws l s0 x0 x1 g0 :=
  ⟨h.a.keep hb, h.c.keep hb, h.d.keep hb, h.e.keep hb⟩
theorem reach_len (cs : List Ce) (ws : List Wd) : (reachM cs ws).length ≤ 1000 := by
  unfold reachM
  split
  · rename_i h
    obtain ⟨h120, hrefs⟩ := heap_refs h.1
    have hml := loop_mv cs hrefs (cs.length + 1) _ 0 0 (Inv.words hrefs ws _ (inv0 cs []) (words_refs h.2))
    have := takenTo_le (inM (copyS cs [] ws)) (inM (copyS cs [] ws)).length
    have e : (inM (copyS cs [] ws)).length = cs.length := by rw [inM_length]; exact hml
    rw [takenM]
    omega
  · simp
/-- A row of marks. -/
def MarkN (w : World) (lo n k : Nat) (v : Value) : Prop := w.ownsRow lo 3 1 v n (marksI n k)

set_option maxHeartbeats 4000000 in
theorem law_HeapReach (cs : List Ce) (hlen : cs.length ≤ maxLen) (ws : List Wd) (hwlen : ws.length ≤ maxLen) (w : World) (v vw : Value) (hv : Cells w (· < w.heap.size) cs v) (hvw : Words w (· < w.heap.size) ws vw) :
    Calls Try.prog 3 #[v, vw] w fun r w' => r = .returned (.bool true) ∧ Below w.heap.size w w' := by
  obtain ⟨a, cap, rfl⟩ := hv.slice
  obtain ⟨wa, wcap, rfl⟩ := hvw.slice
  go_enter Try.func3, Try.ntmps3
  go_upto_region 5 with (go_at_call 4; refine (law_szCellL cs hlen _ a cap 1048576 (by omega)).mono ?_; rintro r w2 ⟨⟨n, rfl, hn1, hn2⟩, hww⟩; have hw2 := hww.symm; clear hww; subst hw2; have hwee : Hid (0 ≤ n → cs.length ≤ 1048576) := hn2; clear hn2)
  · go_ret
    exact ⟨rfl, Below.refl _ _⟩
  have hl := hwee.out (by omega)
  clear hwee
  obtain ⟨n', rfl⟩ : ∃ n' : Nat, n = (n' : Int) := ⟨n.toNat, by omega⟩
  have hszw := fun w => law_szWordL ws hwlen w wa wcap n' (by omega)
  go_upto_region 8 with (go_at_call 5; refine (hszw _).mono ?_; rintro r w2 ⟨⟨m, rfl, hm1, hm2⟩, hww⟩; have hw2 := hww.symm; clear hww; subst hw2; have hwee : Hid (0 ≤ m → ws.length ≤ n') := hm2; clear hm2)
  · go_ret
    exact ⟨rfl, Below.refl _ _⟩
  have hwl : ws.length ≤ 1048576 := by have := hwee.out (by omega); omega
  clear hwee hszw
  have hcl := reach_len cs ws
  have hS := fun w' v vw hv hvw => spec_HeapReach cs hl ws hwl v vw w' hv hvw
  have hI := fun w' v vw hv hvw => impl_HeapReach cs hl ws hwl v vw w' hv hvw
  generalize reachM cs ws = rl at *
  have hcl' : rl.length ≤ 1000000 := by omega
  go_upto_region 9 with (first
    | (go_at_call 7; refine (own_toCellS cs hl _ _ hv).mono ?_; rintro r w1 ⟨v1, rfl, hO1, hb1⟩)
    | (go_at_call 8; refine (own_toWordS ws hwl _ _ (hvw.keep hb1 hb1.size)).mono ?_; rintro r w2 ⟨v2, rfl, hO2, hb2⟩)
    | (go_at_call 6; refine (hS _ _ _ (OwnC.row (lo := w.heap.size) (hi := w2.heap.size) ⟨ow_keep hO1 hb2, fun k hk => ((ow_keep hO1 hb2).lt k hk).2⟩) (OwnW.row (lo := w1.heap.size) (hi := w2.heap.size) ⟨hO2, fun k hk => (hO2.lt k hk).2⟩)).mono ?_; rintro r w3 ⟨s0, rfl, hs0, hb3⟩; have hB3 := hc_next (hc_next hb1 hb2) hb3))
  have S0 : OwnI w3 w.heap.size w3.heap.size rl s0 := ⟨ow_base hs0 (hc_next hb1 hb2).size, fun k hk => (hs0.lt k hk).2⟩
  have hv3 := hv.keep hB3 hB3.size
  have hvw3 := hvw.keep hB3 hB3.size
  clear hO1 hb1 hO2 hb2 hs0 hb3
  go_upto_region 12 with (first
    | (go_at_call 7; refine (own_toCellS cs hl _ _ hv3).mono ?_; rintro r w4 ⟨x0, rfl, hO4, hb4⟩)
    | (go_at_call 8; refine (own_toWordS ws hwl _ _ (hvw3.keep hb4 hb4.size)).mono ?_; rintro r w5 ⟨x1, rfl, hO5, hb5⟩)
    | (go_at_call 9; refine (hI _ _ _ (OwnC.row (lo := w3.heap.size) (hi := w5.heap.size) ⟨ow_keep hO4 hb5, fun k hk => ((ow_keep hO4 hb5).lt k hk).2⟩) (OwnW.row (lo := w4.heap.size) (hi := w5.heap.size) ⟨hO5, fun k hk => (hO5.lt k hk).2⟩)).mono ?_; rintro r w6 ⟨g0, rfl, hg0, hb6⟩))
  have hB6 := hc_next (hc_next (hc_next hB3 hb4) hb5) hb6
  have A6 : Fou w6 w.heap.size w3.heap.size w4.heap.size w5.heap.size w6.heap.size cs ws rl s0 x0 x1 g0 := ⟨((S0.keep hb4).keep hb5).keep hb6, OwnC.keep (OwnC.keep ⟨hO4, fun k hk => (hO4.lt k hk).2⟩ hb5) hb6, OwnW.keep ⟨hO5, fun k hk => (hO5.lt k hk).2⟩ hb6, ⟨hg0, fun k hk => (hg0.lt k hk).2⟩⟩
  have z3 := hB3.size
  have z4 := hb4.size
  have z5 := hb5.size
  have z6 := hb6.size
  clear hO4 hb4 hO5 hb5 hg0 hb6 S0 hv3 hvw3 hB3
  obtain ⟨N3, hN3⟩ : ∃ N, N = w3.heap.size := ⟨_, rfl⟩
  obtain ⟨N4, hN4⟩ : ∃ N, N = w4.heap.size := ⟨_, rfl⟩
  obtain ⟨N5, hN5⟩ : ∃ N, N = w5.heap.size := ⟨_, rfl⟩
  obtain ⟨N6, hN6⟩ : ∃ N, N = w6.heap.size := ⟨_, rfl⟩
  rw [← hN3, ← hN4, ← hN5, ← hN6] at A6
  rw [← hN3] at z3 z4
  rw [← hN4] at z4 z5
  rw [← hN5] at z5 z6
  clear hN3 hN4 hN5 hN6
  go_upto_region 14 with (go_at_call 10; refine (law_eqIntS rl hcl' _ _ _ _ _ _ _ A6.e A6.a).mono ?_; rintro r w8 ⟨rfl, hb8⟩; have A8 := A6.keep hb8; have hB8 := hc_next hB6 hb8)
  clear hb8 hB6 A6
  go_upto_region 16 with (first
    | (go_at_call 7; refine (law_toCellS cs hl _ _ (hv.keep hB8 hB8.size)).mono ?_; rintro r w9 ⟨y9, rfl, hy9, hb9⟩; have A9 := A8.keep hb9; have hB9 := hc_next hB8 hb9)
    | (go_at_call 11; refine (law_eqCellS cs hl _ _ _ A9.c.row (hy9.same fun _ hb => ⟨rfl, hb.2⟩)).mono ?_; rintro r w10 ⟨rfl, hb10⟩; have A10 := A9.keep hb10; have hB10 := hc_next hB9 hb10))
  clear hy9 hb9 hb10 A8 A9 hB8 hB9
  go_upto_region 18 with (first
    | (go_at_call 8; refine (law_toWordS ws hwl _ _ (hvw.keep hB10 hB10.size)).mono ?_; rintro r w11 ⟨y11, rfl, hy11, hb11⟩; have A11 := A10.keep hb11; have hB11 := hc_next hB10 hb11)
    | (go_at_call 12; refine (law_eqWordS ws hwl _ _ _ A11.d.row (hy11.same fun _ hb => ⟨rfl, hb.2⟩)).mono ?_; rintro r w12 ⟨rfl, hb12⟩; have A12 := A11.keep hb12; have hB12 := hc_next hB11 hb12))
  clear hy11 hb11 hb12 A10 A11 hB10 hB11
  obtain ⟨k1, hk1⟩ : ∃ k, k = 1 + cs.length * 6 := ⟨_, rfl⟩
  obtain ⟨k2, hk2⟩ : ∃ k, k = k1 + ws.length * 2 := ⟨_, rfl⟩
  obtain ⟨m1, hm1'⟩ : ∃ k, k = 1 + rl.length := ⟨_, rfl⟩
  have bk1 : k1 ≤ 10000000 := by omega
  have mx0 : ∀ w x, OwnC w N3 N4 cs x → Calls Try.prog 13 #[x, .int .i64 1] w fun r w' => r = .returned (.int .i64 (k1 : Int)) ∧ w.grownBy w' x.ownBlock := fun w x h => (law_markCellS cs.length _ x w N3 1 (by omega) (by omega) h.1).mono fun r w' ⟨h1, _, h3⟩ => ⟨by rw [h1, hk1], h3⟩
  have mx1 : ∀ w x, OwnW w N4 N5 ws x → Calls Try.prog 14 #[x, .int .i64 (k1 : Int)] w fun r w' => r = .returned (.int .i64 (k2 : Int)) ∧ w.grownBy w' x.ownBlock := fun w x h => (law_markWordS ws.length _ x w N4 k1 (by omega) bk1 h.1).mono fun r w' ⟨h1, _, h3⟩ => ⟨by rw [h1, hk2], h3⟩
  have mg0 : ∀ w x, OwnI w N5 N6 rl x → Calls Try.prog 15 #[x, .int .i64 1] w fun r w' => r = .returned (.int .i64 (m1 : Int)) ∧ MarkN w' N5 rl.length 1 x ∧ w.grownBy w' x.ownBlock := fun w x h => (law_markIntS rl.length _ x w N5 1 (by omega) (by omega) h.1).mono fun r w' ⟨h1, h2, h3⟩ => ⟨by rw [h1, hm1'], h2, h3⟩
  have hh0 : ∀ w x, MarkN w N5 rl.length 1 x → Calls Try.prog 16 #[x, .int .i64 1] w fun r w' => r = .returned (.int .i64 (m1 : Int)) ∧ w' = w := fun w x h => (law_heldIntS rl.length 1 x w N5 (by omega) (by omega) h).mono fun r w' ⟨h1, h2⟩ => ⟨by rw [h1, hm1'], h2⟩
  clear hk1 hk2 hm1'
  go_upto_region 21 with (first
    | (go_at_call 13; refine (mx0 _ _ A12.c).mono ?_; rintro r w13 ⟨rfl, hg13⟩)
    | (go_at_call 14; refine (mx1 _ _ (A12.d.but hg13 (far' A12.c.2 (fun k hk => (A12.d.1.lt k hk).1)))).mono ?_; rintro r w14 ⟨rfl, hg14⟩))
  have fx0 : ∀ k, x0.ownBlock = some k → N3 ≤ k := fun k hk => (A12.c.1.lt k hk).1
  have fx1 : ∀ k, x1.ownBlock = some k → N4 ≤ k := fun k hk => (A12.d.1.lt k hk).1
  have fg0 : ∀ k, g0.ownBlock = some k → N5 ≤ k := fun k hk => (A12.e.1.lt k hk).1
  have S0 := (A12.a.but hg13 (far A12.a.2 fx0)).but hg14 (far (N := N3) A12.a.2 (fun k hk => Nat.le_trans z4 (fx1 k hk)))
  have G0 := (A12.e.but hg13 (far' (N := N5) (fun k hk => Nat.lt_of_lt_of_le (A12.c.2 k hk) z5) fg0)).but hg14 (far' A12.d.2 fg0)
  have hB14 := (hB12.grown hg13 hB12.size (fun k hk => Nat.le_trans z3 (fx0 k hk))).grown hg14 (Nat.le_trans hB12.size hg13.size) (fun k hk => Nat.le_trans z3 (Nat.le_trans z4 (fx1 k hk)))
  clear hg13 hg14 A12 hB12 mx0 mx1
  go_upto_region 23 with (go_at_call 10; refine (law_eqIntS rl hcl' _ _ _ _ _ _ _ G0 S0).mono ?_; rintro r w16 ⟨rfl, hb16⟩; have G0w := G0.keep hb16; have S0w := S0.keep hb16; have hB16 := hc_next hB14 hb16)
  clear G0 S0 hb16 hB14
  go_upto_region 26 with (go_at_call 15; refine (mg0 _ _ G0w).mono ?_; rintro r w17 ⟨rfl, M17, hg17⟩)
  have S0 := S0w.but hg17 (far (N := N3) S0w.2 (fun k hk => by have := fg0 k hk; omega))
  have hB17 := hB16.grown hg17 hB16.size (fun k hk => by have := fg0 k hk; omega)
  clear G0w S0w hg17 hB16 mg0
  go_upto_region 31 with (go_at_call 16; refine (hh0 _ _ M17).mono ?_; rintro r w19 ⟨rfl, e19⟩; have e19' := e19.symm; clear e19; subst e19')
  have hv18 := hv.keep hB17 hB17.size
  have hvw18 := hvw.keep hB17 hB17.size
  go_upto_region 32 with (first
    | (go_at_call 7; refine (own_toCellS cs hl _ _ hv18).mono ?_; rintro r w21 ⟨v21, rfl, hO21, hb21⟩)
    | (go_at_call 8; refine (own_toWordS ws hwl _ _ (hvw18.keep hb21 hb21.size)).mono ?_; rintro r w22 ⟨v22, rfl, hO22, hb22⟩)
    | (go_at_call 9; refine (hI _ _ _ (OwnC.row (lo := w17.heap.size) (hi := w22.heap.size) ⟨ow_keep hO21 hb22, fun k hk => ((ow_keep hO21 hb22).lt k hk).2⟩) (OwnW.row (lo := w21.heap.size) (hi := w22.heap.size) ⟨hO22, fun k hk => (hO22.lt k hk).2⟩)).mono ?_; rintro r w23 ⟨h0, rfl, hh0', hb23⟩))
  have hb1723 := hc_next (hc_next hb21 hb22) hb23
  have H0 : OwnI w23 w22.heap.size w23.heap.size rl h0 := ⟨hh0', fun k hk => (hh0'.lt k hk).2⟩
  have S0x := S0.keep hb1723
  have M23 : MarkN w23 N5 rl.length 1 g0 := ow_keep M17 hb1723
  have hB23 := hc_next hB17 hb1723
  clear hO21 hb21 hO22 hb22 hh0' hb23 S0 M17 hB17 hv18 hvw18 hb1723
  go_upto_region 34 with (go_at_call 10; refine (law_eqIntS rl hcl' _ _ _ _ _ _ _ H0 S0x).mono ?_; rintro r w25 ⟨rfl, hb25⟩; have hB25 := hc_next hB23 hb25; have M25 : MarkN w25 N5 rl.length 1 g0 := ow_keep M23 hb25)
  clear H0 S0x M23 hB23 hb25
  go_wp2_with (go_at_call 16; refine (hh0 _ _ M25).mono ?_; rintro r w26 ⟨rfl, e26⟩; have e26' := e26.symm; clear e26; subst e26')
  go_ret
  exact ⟨rfl, hB25⟩
end Go.Proofs.Ytbhmklkecheipaa
