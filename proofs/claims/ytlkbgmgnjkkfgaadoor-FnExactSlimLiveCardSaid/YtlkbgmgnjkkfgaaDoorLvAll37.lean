/-
  The law of SlimLive.
  What can be read as a row of plain things lies there as one. No type of the program is named here.
  What can be read as ops is a row of them.
-/
import Derived.Test.YtlkbgmgnjkkfgaaDoorLvAll35
import Derived.Test.YtlkbgmgnjkkfgaaDoorLvAll36
import Derived.Deep.Cut
import Derived.Test.YtlkbgmgnjkkfgaaDoorRows
import Derived.Test.YtlkbgmgnjkkfgaaDoorLvAll0
import Derived.ProofKit
import Derived.OpenShut
import Derived.Deep.Slices
namespace Go.Proofs.YtlkbgmgnjkkfgaaDoor
open Go.RowKit

/-- Values whose blocks lie apart: the one's below N, the other's from N on. -/
theorem far {u v : Value} {N : Nat} (h1 : ∀ k, v.ownBlock = some k → k < N) (h2 : ∀ k, u.ownBlock = some k → N ≤ k) : ∀ k, u.ownBlock = some k → v.ownBlock ≠ some k := fun k hk e => by
  have := h1 k e
  have := h2 k hk
  omega
theorem far' {u v : Value} {N : Nat} (h1 : ∀ k, u.ownBlock = some k → k < N) (h2 : ∀ k, v.ownBlock = some k → N ≤ k) : ∀ k, u.ownBlock = some k → v.ownBlock ≠ some k := fun k hk e => by
  have := h2 k e
  have := h1 k hk
  omega
/-- The ops l lie in w as v, in a block of the law's own from lo to hi. -/
def OwnO (w : World) (lo hi : Nat) (l : List Wd) (v : Value) : Prop := w.ownsRow lo 37 2 v l.length (l.flatMap Wd.cells) ∧ ∀ k, v.ownBlock = some k → k < hi
section
variable {w w' : World} {lo hi : Nat} {l : List Wd} {v : Value}
theorem OwnO.keep (h : OwnO w lo hi l v) (hb : Below w.heap.size w w') : OwnO w' lo hi l v := ⟨ow_keep h.1 hb, h.2⟩
theorem OwnO.but {u : Value} (h : OwnO w lo hi l v) (hg : w.grownBy w' u.ownBlock) (hu : ∀ k, u.ownBlock = some k → v.ownBlock ≠ some k) : OwnO w' lo hi l v := by
  refine ⟨h.1.kept hg ?_, h.2⟩
  cases hv : v.ownBlock with
  | none => exact Or.inl rfl
  | some k => exact Or.inr fun e => hu k e.symm hv
theorem OwnO.row (h : OwnO w lo hi l v) : Words w (· < w.heap.size) l v := (OwnR.row (f := Wd.cells) h.1 (fun _ => rfl)).same fun _ hb => ⟨rfl, hb.2⟩
end
/-- All that the law holds. -/
structure TriO (w : World) (N0 N3 N4 N6 : Nat) (cs : List Wd) (l : List Nat) (s0 x0 g0 : Value) : Prop where
  a : OwnI w N0 N3 l s0
  c : OwnO w N3 N4 cs x0
  e : OwnI w N4 N6 l g0
theorem TriO.keep {w w' : World} {N0 N3 N4 N6 : Nat} {cs : List Wd} {l : List Nat} {s0 x0 g0 : Value} (h : TriO w N0 N3 N4 N6 cs l s0 x0 g0) (hb : Below w.heap.size w w') : TriO w' N0 N3 N4 N6 cs l s0 x0 g0 :=
  ⟨h.a.keep hb, h.c.keep hb, h.e.keep hb⟩
/-- A row of marks. -/
def MarkN (w : World) (lo n k : Nat) (v : Value) : Prop := w.ownsRow lo 3 1 v n (marksI n k)

set_option maxHeartbeats 4000000 in
theorem law_SlimLive (cs : List Wd) (hlen : cs.length ≤ maxLen) (w : World) (v : Value) (hv : Words w (· < w.heap.size) cs v) (hT : BitTab w) :
    Calls Tryd.prog 3 #[v] w fun r w' => r = .returned (.bool true) ∧ Below w.heap.size w w' := by
  obtain ⟨a, cap, rfl⟩ := hv.slice
  go_enter Tryd.func3, Tryd.ntmps3
  go_upto_region 5 with (go_at_call 4; refine (law_szOpL cs hlen _ a cap 1048576 (by omega)).mono ?_; rintro r w2 ⟨⟨n, rfl, _, hw⟩, hww⟩; have hw2 := hww.symm; clear hww; subst hw2; have hwee : Hid (0 ≤ n → cs.length ≤ 1048576) := fun h0 => (by have := hw h0; omega); clear hw)
  · go_ret
    exact ⟨rfl, Below.refl _ _⟩
  have hl := hwee.out (by omega)
  clear hwee
  have hcl := liveA_len cs
  have hS := fun w' v hv => spec_SlimLive cs hl v w' hv
  have hI := fun w' v hv hT' => impl_SlimLive cs hl w' v hv hT'
  generalize liveA cs = rl at *
  have hcl' : rl.length ≤ 1000000 := by omega
  go_upto_region 6 with (first
    | (go_at_call 6; refine (own_toOpS cs hl _ _ hv).mono ?_; rintro r w1 ⟨v1, rfl, hO1, hb1⟩)
    | (go_at_call 5; refine (hS _ _ (OwnO.row (lo := w.heap.size) (hi := w1.heap.size) ⟨hO1, fun k hk => (hO1.lt k hk).2⟩)).mono ?_; rintro r w3 ⟨s0, rfl, hs0, hb3⟩; have hB3 := lv_next hb1 hb3))
  have S0 : OwnI w3 w.heap.size w3.heap.size rl s0 := ⟨ow_base hs0 hb1.size, fun k hk => (hs0.lt k hk).2⟩
  have hv3 := hv.keep hB3 hB3.size
  clear hO1 hb1 hs0 hb3
  go_upto_region 8 with (first
    | (go_at_call 6; refine (own_toOpS cs hl _ _ hv3).mono ?_; rintro r w4 ⟨x0, rfl, hO4, hb4⟩)
    | (go_at_call 7; refine (hI _ _ (OwnO.row (lo := w3.heap.size) (hi := w4.heap.size) ⟨hO4, fun k hk => (hO4.lt k hk).2⟩) (hT.keep (lv_next hB3 hb4))).mono ?_; rintro r w6 ⟨g0, rfl, hg0, hb6⟩))
  have hB6 := lv_next (lv_next hB3 hb4) hb6
  have A6 : TriO w6 w.heap.size w3.heap.size w4.heap.size w6.heap.size cs rl s0 x0 g0 := ⟨(S0.keep hb4).keep hb6, OwnO.keep ⟨hO4, fun k hk => (hO4.lt k hk).2⟩ hb6, ⟨hg0, fun k hk => (hg0.lt k hk).2⟩⟩
  have z3 := hB3.size
  have z4 := hb4.size
  have z6 := hb6.size
  clear hO4 hb4 hg0 hb6 S0 hv3 hB3
  obtain ⟨N3, hN3⟩ : ∃ N, N = w3.heap.size := ⟨_, rfl⟩
  obtain ⟨N4, hN4⟩ : ∃ N, N = w4.heap.size := ⟨_, rfl⟩
  obtain ⟨N6, hN6⟩ : ∃ N, N = w6.heap.size := ⟨_, rfl⟩
  rw [← hN3, ← hN4, ← hN6] at A6
  rw [← hN3] at z3 z4
  rw [← hN4] at z4 z6
  clear hN3 hN4 hN6
  go_upto_region 10 with (go_at_call 8; refine (law_eqIntS rl hcl' _ _ _ _ _ _ _ A6.e A6.a).mono ?_; rintro r w8 ⟨rfl, hb8⟩; have A8 := A6.keep hb8; have hB8 := lv_next hB6 hb8)
  clear hb8 hB6 A6
  go_upto_region 12 with (first
    | (go_at_call 6; refine (law_toOpS cs hl _ _ (hv.keep hB8 hB8.size)).mono ?_; rintro r w9 ⟨y9, rfl, hy9, hb9⟩; have A9 := A8.keep hb9; have hB9 := lv_next hB8 hb9)
    | (go_at_call 9; refine (law_eqOpS cs hl _ _ _ A9.c.row (hy9.same fun _ hb => ⟨rfl, hb.2⟩)).mono ?_; rintro r w10 ⟨rfl, hb10⟩; have A10 := A9.keep hb10; have hB10 := lv_next hB9 hb10))
  clear hy9 hb9 hb10 A8 A9 hB8 hB9
  obtain ⟨k1, hk1⟩ : ∃ k, k = 1 + cs.length * 2 := ⟨_, rfl⟩
  obtain ⟨m1, hm1'⟩ : ∃ k, k = 1 + rl.length := ⟨_, rfl⟩
  have mx0 : ∀ w x, OwnO w N3 N4 cs x → Calls Tryd.prog 10 #[x, .int .i64 1] w fun r w' => r = .returned (.int .i64 (k1 : Int)) ∧ w.grownBy w' x.ownBlock := fun w x h => (law_markOpS cs.length _ x w N3 1 (by omega) (by omega) h.1).mono fun r w' ⟨h1, _, h3⟩ => ⟨by rw [h1, hk1], h3⟩
  have mg0 : ∀ w x, OwnI w N4 N6 rl x → Calls Tryd.prog 11 #[x, .int .i64 1] w fun r w' => r = .returned (.int .i64 (m1 : Int)) ∧ MarkN w' N4 rl.length 1 x ∧ w.grownBy w' x.ownBlock := fun w x h => (law_markIntS rl.length _ x w N4 1 (by omega) (by omega) h.1).mono fun r w' ⟨h1, h2, h3⟩ => ⟨by rw [h1, hm1'], h2, h3⟩
  have hh0 : ∀ w x, MarkN w N4 rl.length 1 x → Calls Tryd.prog 12 #[x, .int .i64 1] w fun r w' => r = .returned (.int .i64 (m1 : Int)) ∧ w' = w := fun w x h => (law_heldIntS rl.length 1 x w N4 (by omega) (by omega) h).mono fun r w' ⟨h1, h2⟩ => ⟨by rw [h1, hm1'], h2⟩
  clear hk1 hm1'
  go_upto_region 14 with (go_at_call 10; refine (mx0 _ _ A10.c).mono ?_; rintro r w13 ⟨rfl, hg13⟩)
  have fx0 : ∀ k, x0.ownBlock = some k → N3 ≤ k := fun k hk => (A10.c.1.lt k hk).1
  have fg0 : ∀ k, g0.ownBlock = some k → N4 ≤ k := fun k hk => (A10.e.1.lt k hk).1
  have S0 := A10.a.but hg13 (far A10.a.2 fx0)
  have G0 := A10.e.but hg13 (far' A10.c.2 fg0)
  have hB14 := hB10.grown hg13 hB10.size (fun k hk => Nat.le_trans z3 (fx0 k hk))
  clear hg13 A10 hB10 mx0
  go_upto_region 16 with (go_at_call 8; refine (law_eqIntS rl hcl' _ _ _ _ _ _ _ G0 S0).mono ?_; rintro r w16 ⟨rfl, hb16⟩; have G0w := G0.keep hb16; have S0w := S0.keep hb16; have hB16 := lv_next hB14 hb16)
  clear G0 S0 hb16 hB14
  go_upto_region 19 with (go_at_call 11; refine (mg0 _ _ G0w).mono ?_; rintro r w17 ⟨rfl, M17, hg17⟩)
  have S0 := S0w.but hg17 (far (N := N3) S0w.2 (fun k hk => by have := fg0 k hk; omega))
  have hB17 := hB16.grown hg17 hB16.size (fun k hk => by have := fg0 k hk; omega)
  clear G0w S0w hg17 hB16 mg0
  go_upto_region 24 with (go_at_call 12; refine (hh0 _ _ M17).mono ?_; rintro r w19 ⟨rfl, e19⟩; have e19' := e19.symm; clear e19; subst e19')
  have hv18 := hv.keep hB17 hB17.size
  go_upto_region 25 with (first
    | (go_at_call 6; refine (own_toOpS cs hl _ _ hv18).mono ?_; rintro r w21 ⟨v21, rfl, hO21, hb21⟩)
    | (go_at_call 7; refine (hI _ _ (OwnO.row (lo := w17.heap.size) (hi := w21.heap.size) ⟨hO21, fun k hk => (hO21.lt k hk).2⟩) (hT.keep (lv_next hB17 hb21))).mono ?_; rintro r w23 ⟨h0, rfl, hh0', hb23⟩))
  have hb1723 := lv_next hb21 hb23
  have H0 : OwnI w23 w21.heap.size w23.heap.size rl h0 := ⟨hh0', fun k hk => (hh0'.lt k hk).2⟩
  have S0x := S0.keep hb1723
  have M23 : MarkN w23 N4 rl.length 1 g0 := ow_keep M17 hb1723
  have hB23 := lv_next hB17 hb1723
  clear hO21 hb21 hh0' hb23 S0 M17 hB17 hv18 hb1723
  go_upto_region 27 with (go_at_call 8; refine (law_eqIntS rl hcl' _ _ _ _ _ _ _ H0 S0x).mono ?_; rintro r w25 ⟨rfl, hb25⟩; have hB25 := lv_next hB23 hb25; have M25 : MarkN w25 N4 rl.length 1 g0 := ow_keep M23 hb25)
  clear H0 S0x M23 hB23 hb25
  go_wp2_with (go_at_call 12; refine (hh0 _ _ M25).mono ?_; rintro r w26 ⟨rfl, e26⟩; have e26' := e26.symm; clear e26; subst e26')
  go_ret
  exact ⟨rfl, hB25⟩
end Go.Proofs.YtlkbgmgnjkkfgaaDoor

namespace Go.Proofs.YtlkbgmgnjkkfgaaDoor
open Go.RowKit

theorem rw_range {w : World} {base b off n : Nat} {cs : List Value} (h : w.cells? base ⟨b, off, none⟩ n = some cs) : w.rangeAt b off cs := by
  intro j v hj
  obtain ⟨_, hl, hc⟩ := World.cells?_some h
  have hlt := (List.getElem?_eq_some_iff.1 hj).1
  have := hc j (by omega)
  rw [Addr.add_mid] at this
  rw [this, hj]
theorem rw_map {α : Type} {f : Nat → α} {len i : Nat} {x : α} (h : ((List.range len).map f)[i]? = some x) : i < len ∧ f i = x := by
  obtain ⟨hi, hx⟩ := List.getElem?_eq_some_iff.1 h
  simp at hi hx
  exact ⟨hi, hx⟩

/-- A slice of things that can be read, each n cells of which the first is an int. -/
theorem open_row {α : Type} [Inhabited α] {f : α → List Value} {n : Nat} {H : Type} {enc : TypeId × Value → H} {w : World} {base : Nat} {sp : Nat → Bool} {held : Bool} {T E : TypeId} (hT : Tryd.prog.underlying T = some (.slice E)) (hE : Tryd.prog.cellsOf E = n) (hn : 0 < n)
    (hfirst : ∀ x, ∃ (k : Int) (r : List Value), f x = .int .i64 k :: r) (hopen : ∀ (fuel : Nat) (cs : List Value) (x : DataW H × List MemPlace), DataW.trod enc Tryd.prog w base sp held fuel E cs = some x → ∃ y : α, cs = f y)
    {fuel : Nat} {cs : List Value} {x : DataW H × List MemPlace} (h : DataW.trod enc Tryd.prog w base sp held fuel T cs = some x) :
    ∃ (l : List α) (s : Value), cs = [s] ∧ RowOf n f w (· < w.heap.size) l s ∧ l.length ≤ maxLen := by
  rcases DataW.trod_slice hT h with ⟨hnil, _⟩ | ⟨ad, len, cap, elems, rest, m, hm, hsl, _, hbb, hlc, hcap, hel, helem, _, _⟩
  · exact ⟨[], _, hnil, RowOf.nil _ _, Nat.zero_le _⟩
  · rw [hE] at helem
    have key : ∀ i, i < len → ∃ q : α, w.cells? base (ad.add (i * n)) n = some (f q) := fun i hi => by
      have := helem i hi
      rw [List.getElem?_eq_getElem (by omega)] at this
      obtain ⟨cs', hc1, hc2⟩ := Option.bind_eq_some_iff.1 this
      obtain ⟨y, rfl⟩ := hopen m cs' _ hc2
      exact ⟨y, hc1⟩
    obtain ⟨g, hg⟩ := Go.Deep.choose_lt key
    refine ⟨(List.range len).map g, .slice (some ad) len cap, hsl, ?_, by simp; omega⟩
    by_cases hz : len = 0
    · subst hz; exact RowOf.nil _ _
    · obtain ⟨b0, off, spot⟩ := ad
      have hs0 := (World.cells?_some (hg 0 (by omega))).2.2 0 (by omega)
      obtain ⟨k0, r0, hk0⟩ := hfirst (g 0)
      have hspot : spot = none := by simpa [Addr.add] using World.cell?_spot (v := .int .i64 k0) (by simpa [hk0, Addr.add] using hs0)
      subst hspot
      have hblk : b0 < w.heap.size := by simpa [Addr.add] using World.cells?_block (hg 0 (by omega)) (by omega)
      refine ⟨some ⟨b0, off, none⟩, cap, by simp, fun i y hy => ⟨b0, off, hblk, rfl, ?_⟩⟩
      obtain ⟨hi, rfl⟩ := rw_map hy
      have := hg i hi
      rw [Addr.add_mid] at this
      exact rw_range this
end Go.Proofs.YtlkbgmgnjkkfgaaDoor

namespace Go.Proofs.YtlkbgmgnjkkfgaaDoor
open Go.ChangeShapes Go.WideShapes Go.ChangeAt Go.RowKit

instance : Inhabited Wd := ⟨⟨0, 0⟩⟩
theorem opInt : Tryd.prog.cellsOf 3 = 1 := by kernel_rfl
theorem opCells : Tryd.prog.cellsOf 39 = 2 := by kernel_rfl

set_option maxRecDepth 100000 in
theorem open_op {H : Type} {enc : TypeId × Value → H} {w : World} {base : Nat} {sp : Nat → Bool} {held : Bool} (fuel : Nat) (cs : List Value) (x : DataW H × List MemPlace)
    (h : DataW.trod enc Tryd.prog w base sp held fuel 39 cs = some x) : ∃ d : Wd, cs = d.cells := by
  obtain ⟨xs, n, rfl, _, hlen, hxs, hat⟩ := DataW.trod_struct Tryd.underlying39 h
  rw [opCells] at hlen
  have h0 := hat 0 _ rfl
  have h1 := hat 1 _ rfl
  have hxs' : xs.length = 2 := hxs
  rw [List.getElem?_eq_getElem (by omega)] at h0 h1
  obtain ⟨t, e0, _, _⟩ := DataW.trod_int Tryd.underlying3 h0
  obtain ⟨u, e1, _, _⟩ := DataW.trod_int Tryd.underlying3 h1
  have e0 : (cs.drop 0).take (Tryd.prog.cellsOf 3) = [.int .i64 t] := e0
  have e1 : (cs.drop 1).take (Tryd.prog.cellsOf 3) = [.int .i64 u] := e1
  rw [opInt] at e0 e1
  match cs, hlen, e0, e1 with
  | [x0, x1], _, e0, e1 =>
    simp at e0 e1
    subst e0 e1
    exact ⟨⟨t, u⟩, rfl⟩

set_option maxRecDepth 100000 in
theorem open_ops {H : Type} {enc : TypeId × Value → H} {W : World} {base b0 : Nat} {sp : Nat → Bool} {held : Bool} {v : Value} {d : DataW H} {p : List MemPlace} (hok : Value.okWide Tryd.prog W .any b0 22 v) (h : DataW.Trod enc Tryd.prog W base sp held 22 v d p) :
    ∃ ops : List Wd, Words W (· < W.heap.size) ops v ∧ ops.length ≤ maxLen := by
  obtain ⟨fuel, hf⟩ := h
  obtain ⟨a, len, cap, rfl⟩ := okWide_slice Tryd.underlying22 hok
  obtain ⟨l, s, hs, hr, hl⟩ := open_row (f := Wd.cells) Tryd.underlying22 opCells (by omega) (fun x => ⟨x.tag, _, rfl⟩) open_op hf
  have hs' : [Value.slice a len cap] = [s] := hs
  obtain rfl : Value.slice a len cap = s := by simpa using hs'
  exact ⟨l, hr, hl⟩
end Go.Proofs.YtlkbgmgnjkkfgaaDoor

