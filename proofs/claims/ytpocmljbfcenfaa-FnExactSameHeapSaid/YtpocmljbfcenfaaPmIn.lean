/-
  The program's wordPair.within: as far as two words tell it themselves.
-/
import Derived.Test.YtpocmljbfcenfaaPmMath
import Derived.Test.YtpocmljbfcenfaaSmSame
import Derived.Deep.QuietTactic
import Derived.BigQuiet
import Derived.BigRegion
import Derived.Deep.RegionHeld3
import Derived.Deep.Cut
import Derived.Deep.DeepCutAuto
namespace Go.Proofs.Ytpocmljbfcenfaa
open Go.RowKit

/-- What within asks for lies in a row. -/
def InRow (w : World) (B : Nat) (l : List Pw) (v : Value) : Prop := (l = [] ∧ v = .slice none 0 0) ∨ l ≠ [] ∧ ∃ g, v = .slice (some ⟨g, 0, none⟩) l.length l.length ∧ B ≤ g ∧ g < w.heap.size ∧ ∀ j u, (l.flatMap Pw.cells)[j]? = some u → w.cell? ((⟨g, 0, none⟩ : Addr).add j) = some u
/-- How within ends. -/
def WithinR (x y : List Ce) (p : Pw) (w w' : World) (r : Ending) : Prop := ∃ v, r = .returned (.tuple #[v, .bool (inner x y p).isSome]) ∧ (∀ l, inner x y p = some l → InRow w' w.heap.size l v) ∧ Below w.heap.size w w'
theorem within_no {x y : List Ce} {p : Pw} {w w' : World} {v : Value} (h : inner x y p = none) (hb : Below w.heap.size w w') : WithinR x y p w w' (.returned (.tuple #[v, .bool false])) :=
  ⟨v, by rw [h]; rfl, fun l e => (by rw [h] at e; cases e), hb⟩
theorem within_nil {x y : List Ce} {p : Pw} {w w' : World} (h : inner x y p = some []) (hb : Below w.heap.size w w') : WithinR x y p w w' (.returned (.tuple #[.slice none 0 0, .bool true])) :=
  ⟨_, by rw [h]; rfl, fun l e => (by rw [h] at e; obtain rfl := Option.some.inj e; exact Or.inl ⟨rfl, rfl⟩), hb⟩
abbrev pwBox (p : Pw) : Obj := .cells #[.int .i64 p.x.tag, .int .i64 p.x.num, .int .i64 p.y.tag, .int .i64 p.y.num] 43
theorem pw_box {w : World} {g : Nat} {p : Pw} (h : w.heap[g]? = some (pwBox p)) : (w.cell? ⟨g, 0, none⟩ = some (.int .i64 p.x.tag) ∧ w.cell? ⟨g, 1, none⟩ = some (.int .i64 p.x.num)) ∧ (w.cell? ⟨g, 2, none⟩ = some (.int .i64 p.y.tag) ∧ w.cell? ⟨g, 3, none⟩ = some (.int .i64 p.y.num)) :=
  ⟨⟨cell_of_row _ _ 0 _ _ _ h, cell_of_row _ _ 1 _ _ _ h⟩, ⟨cell_of_row _ _ 2 _ _ _ h, cell_of_row _ _ 3 _ _ _ h⟩⟩

theorem two_new (w : World) (A B : Obj) : ((w.alloc A).alloc B).drew.heap[w.heap.size]? = some A ∧ ((w.alloc A).alloc B).drew.heap[w.heap.size + 1]? = some B ∧ Below w.heap.size w ((w.alloc A).alloc B).drew := by
  have hz : (w.alloc A).heap.size = w.heap.size + 1 := World.size_alloc w A
  refine ⟨?_, ?_, ((bt_sm w A).alloc (by omega) B).drew⟩
  · exact ((bt_sm (w.alloc A) B).block w.heap.size (by omega)).trans (heap_alloc_new w A)
  · have := heap_alloc_new (w.alloc A) B
    rw [hz] at this
    exact this
theorem within_two {x y : List Ce} {p q r : Pw} {w wc : World} {ty : Nat} {bb : Bool} (h : inner x y p = if bb then some [q, r] else none) (hb : Below w.heap.size w wc) : WithinR x y p w (wc.alloc (.cells #[.int .i64 q.x.tag, .int .i64 q.x.num, .int .i64 q.y.tag, .int .i64 q.y.num, .int .i64 r.x.tag, .int .i64 r.x.num, .int .i64 r.y.tag, .int .i64 r.y.num] ty)).drew (.returned (.tuple #[.slice (some ⟨wc.heap.size, 0, none⟩) 2 2, .bool bb])) := by
  have hz := hb.size
  refine ⟨.slice (some ⟨wc.heap.size, 0, none⟩) 2 2, by rw [h]; cases bb <;> rfl, fun l e => ?_, (hb.alloc hz _).drew⟩
  rw [h] at e
  cases bb
  · cases e
  obtain rfl := Option.some.inj e
  refine Or.inr ⟨by simp, wc.heap.size, rfl, hz, ?_, fun j u hu => ?_⟩
  · show wc.heap.size < (wc.alloc _).heap.size
    rw [World.size_alloc]; omega
  · rw [show (⟨wc.heap.size, 0, none⟩ : Addr).add j = ⟨wc.heap.size, j, none⟩ by simp [Addr.add]; exact fun h => h.symm]
    have := cell_of_row _ _ j _ _ _ (heap_alloc_new wc (.cells #[.int .i64 q.x.tag, .int .i64 q.x.num, .int .i64 q.y.tag, .int .i64 q.y.num, .int .i64 r.x.tag, .int .i64 r.x.num, .int .i64 r.y.tag, .int .i64 r.y.num] ty))
    refine Eq.trans this ?_
    simpa [Pw.cells] using hu
set_option maxRecDepth 100000 in
set_option maxHeartbeats 4000000 in
theorem impl_within (x y : List Ce) (p : Pw) (hx : refOk x.length p.x) (hy : refOk y.length p.y) (w : World) (vx vy : Value) (hvx : Cells w (· < w.heap.size) x vx) (hvy : Cells w (· < w.heap.size) y vy) :
    Calls Try.prog 16 #[.agg #[.int .i64 p.x.tag, .int .i64 p.x.num, .int .i64 p.y.tag, .int .i64 p.y.num], vx, vy] w fun r w' => WithinR x y p w w' r := by
  obtain ⟨xa, xcap, rfl⟩ := hvx.slice
  obtain ⟨ya, ycap, rfl⟩ := hvy.slice
  have hp1 : (w.alloc (pwBox p)).heap[w.heap.size]? = some (pwBox p) := heap_alloc_new w _
  have hb1 : Below w.heap.size w (w.alloc (pwBox p)) := bt_sm w _
  obtain ⟨⟨c0, c1⟩, ⟨c2, c3⟩⟩ := pw_box hp1
  by_cases h4 : p.x.tag = 4 ∧ p.y.tag = 4
  · obtain ⟨⟨t1, a⟩, ⟨t2, b⟩⟩ := p
    dsimp only at h4
    obtain ⟨rfl, rfl⟩ := h4
    obtain ⟨a0, a1⟩ := hx rfl
    obtain ⟨b0, b1⟩ := hy rfl
    obtain ⟨a, rfl⟩ : ∃ k : Nat, a = k := Int.eq_ofNat_of_zero_le a0
    obtain ⟨b, rfl⟩ : ∃ k : Nat, b = k := Int.eq_ofNat_of_zero_le b0
    have hal : a < x.length := by simpa using a1
    have hbl : b < y.length := by simpa using b1
    have hin : inner x y ⟨⟨4, (a : Int)⟩, ⟨4, (b : Int)⟩⟩ = if x[a].kind = y[b].kind ∧ x[a].num = y[b].num then some [⟨x[a].a, y[b].a⟩, ⟨x[a].b, y[b].b⟩] else none := by
      unfold inner
      rw [if_pos ⟨rfl, rfl⟩]
      simp [hal, hbl]
    obtain ⟨bx, ox, hSx, rfl, rx⟩ := hvx.at a hal
    obtain ⟨by', oy, hSy, rfl, ry⟩ := hvy.at b hbl
    have rx1 := rw_same (hb1.block bx hSx) rx
    have ry1 := rw_same (hb1.block by' hSy) ry
    obtain ⟨m0, m1, m2, m3, m4, m5⟩ := Ce.six rx1
    obtain ⟨n0, n1, n2, n3, n4, n5⟩ := Ce.six ry1
    have hai : (a : Int) < (x.length : Int) := by omega
    have hbi : (b : Int) < (y.length : Int) := by omega
    clear rx ry rx1 ry1 hvx hvy hx hy a0 a1 b0 b1
    generalize x[a] = c at *
    generalize y[b] = e at *
    go_enter Try.func16, Try.ntmps16
    go_upto_region 3 with fail
    change Code.wp _ _ _ _ (w.alloc (pwBox ⟨⟨4, (a : Int)⟩, ⟨4, (b : Int)⟩⟩))
    generalize w.alloc (pwBox ⟨⟨4, (a : Int)⟩, ⟨4, (b : Int)⟩⟩) = W1 at *
    go_cut [8, 9] from 10 to 59 (fun s8 s9 wc => ∃ g1 g2, s8 = .pointer (some ⟨g1, 0, none⟩) ∧ s9 = .pointer (some ⟨g2, 0, none⟩) ∧ wc.heap[g1]? = some (ceBx c) ∧ wc.heap[g2]? = some (ceBx e) ∧ Below W1.heap.size W1 wc)
    case first =>
      go_region_held3 (fun w' => (w'.cell? ⟨w.heap.size, 1, none⟩ = some (.int .i64 (a : Int)) ∧ w'.cell? ⟨w.heap.size, 3, none⟩ = some (.int .i64 (b : Int))) ∧ (w'.cell? ⟨bx, ox + a * 6, none⟩ = some (.int .i64 c.kind) ∧ w'.cell? ⟨bx, ox + a * 6 + 1, none⟩ = some (.int .i64 c.num) ∧ w'.cell? ⟨bx, ox + a * 6 + 2, none⟩ = some (.int .i64 c.a.tag) ∧ w'.cell? ⟨bx, ox + a * 6 + 3, none⟩ = some (.int .i64 c.a.num) ∧ w'.cell? ⟨bx, ox + a * 6 + 4, none⟩ = some (.int .i64 c.b.tag) ∧ w'.cell? ⟨bx, ox + a * 6 + 5, none⟩ = some (.int .i64 c.b.num)) ∧ (w'.cell? ⟨by', oy + b * 6, none⟩ = some (.int .i64 e.kind) ∧ w'.cell? ⟨by', oy + b * 6 + 1, none⟩ = some (.int .i64 e.num) ∧ w'.cell? ⟨by', oy + b * 6 + 2, none⟩ = some (.int .i64 e.a.tag) ∧ w'.cell? ⟨by', oy + b * 6 + 3, none⟩ = some (.int .i64 e.a.num) ∧ w'.cell? ⟨by', oy + b * 6 + 4, none⟩ = some (.int .i64 e.b.tag) ∧ w'.cell? ⟨by', oy + b * 6 + 5, none⟩ = some (.int .i64 e.b.num))) (first | go_keep | exact ⟨⟨c1, c3⟩, ⟨m0, m1, m2, m3, m4, m5⟩, ⟨n0, n1, n2, n3, n4, n5⟩⟩) (fail)
      all_goals
        go_wp2_with fail
        go_meet
        case rel =>
          obtain ⟨q1, q2, q3⟩ := two_new W1 (ceBx c) (ceBx e)
          obtain ⟨q4, q5, q6⟩ := two_new W1 (ceBx e) (ceBx c)
          first
            | exact ⟨_, _, rfl, rfl, q1, q2, q3⟩
            | exact ⟨_, _, rfl, rfl, q5, q4, q6⟩
    case rest =>
      obtain ⟨g1, g2, rfl, rfl, hg1, hg2, hb2⟩ := hcut
      obtain ⟨⟨k0, k1⟩, ⟨k2, k3⟩, ⟨k4, k5⟩⟩ := ce_box hg1
      obtain ⟨⟨l0, l1⟩, ⟨l2, l3⟩, ⟨l4, l5⟩⟩ := ce_box hg2
      have hbz : Below w.heap.size w wc := hb1.trans (hb2.mono hb1.size)
      have hin' : Hid (inner x y ⟨⟨4, (a : Int)⟩, ⟨4, (b : Int)⟩⟩ = if c.kind = e.kind ∧ c.num = e.num then some [⟨c.a, e.a⟩, ⟨c.b, e.b⟩] else none) := hin
      clear hin hg1 hg2 hb2 hb1 hp1 c0 c1 c2 c3 m0 m1 m2 m3 m4 m5 n0 n1 n2 n3 n4 n5
      by_cases hk : c.kind = e.kind
      · have t1 : (c.kind == e.kind) = true := by simpa using hk
        by_cases hn : c.num = e.num
        · have t2 : (c.num == e.num) = true := by simpa using hn
          have hin : Hid (inner x y ⟨⟨4, (a : Int)⟩, ⟨4, (b : Int)⟩⟩ = some [⟨c.a, e.a⟩, ⟨c.b, e.b⟩]) := by show _ = _; rw [hin'.out, if_pos ⟨hk, hn⟩]
          clear hk hn hin'
          go_upto_region 4 with fail
          go_region_held3 (fun w' => w'.cell? ⟨g1, 0, none⟩ = some (.int .i64 c.kind) ∧ w'.cell? ⟨g1, 1, none⟩ = some (.int .i64 c.num) ∧ w'.cell? ⟨g1, 2, none⟩ = some (.int .i64 c.a.tag) ∧ w'.cell? ⟨g1, 3, none⟩ = some (.int .i64 c.a.num) ∧ w'.cell? ⟨g1, 4, none⟩ = some (.int .i64 c.b.tag) ∧ w'.cell? ⟨g1, 5, none⟩ = some (.int .i64 c.b.num) ∧ w'.cell? ⟨g2, 0, none⟩ = some (.int .i64 e.kind) ∧ w'.cell? ⟨g2, 1, none⟩ = some (.int .i64 e.num) ∧ w'.cell? ⟨g2, 2, none⟩ = some (.int .i64 e.a.tag) ∧ w'.cell? ⟨g2, 3, none⟩ = some (.int .i64 e.a.num) ∧ w'.cell? ⟨g2, 4, none⟩ = some (.int .i64 e.b.tag) ∧ w'.cell? ⟨g2, 5, none⟩ = some (.int .i64 e.b.num)) (first | go_keep | exact ⟨k0, k1, k2, k3, k4, k5, l0, l1, l2, l3, l4, l5⟩) (fail)
          all_goals
            go_wp2_with fail
            refine bodyPost_ret (v := .tuple #[.slice (some ⟨wc.heap.size, 0, none⟩) 2 2, .bool true]) (by simp [results, Try.results16, go_sem]) rfl ?_
            exact within_two (q := ⟨c.a, e.a⟩) (r := ⟨c.b, e.b⟩) (bb := true) (by rw [hin.out]; rfl) hbz
        · have t2 : (c.num == e.num) = false := by simpa using hn
          have hin : Hid (inner x y ⟨⟨4, (a : Int)⟩, ⟨4, (b : Int)⟩⟩ = none) := by show _ = _; rw [hin'.out, if_neg (fun h => hn h.2)]
          clear hk hn hin'
          go_upto_region 4 with fail
          go_region_held3 (fun w' => w'.cell? ⟨g1, 0, none⟩ = some (.int .i64 c.kind) ∧ w'.cell? ⟨g1, 1, none⟩ = some (.int .i64 c.num) ∧ w'.cell? ⟨g1, 2, none⟩ = some (.int .i64 c.a.tag) ∧ w'.cell? ⟨g1, 3, none⟩ = some (.int .i64 c.a.num) ∧ w'.cell? ⟨g1, 4, none⟩ = some (.int .i64 c.b.tag) ∧ w'.cell? ⟨g1, 5, none⟩ = some (.int .i64 c.b.num) ∧ w'.cell? ⟨g2, 0, none⟩ = some (.int .i64 e.kind) ∧ w'.cell? ⟨g2, 1, none⟩ = some (.int .i64 e.num) ∧ w'.cell? ⟨g2, 2, none⟩ = some (.int .i64 e.a.tag) ∧ w'.cell? ⟨g2, 3, none⟩ = some (.int .i64 e.a.num) ∧ w'.cell? ⟨g2, 4, none⟩ = some (.int .i64 e.b.tag) ∧ w'.cell? ⟨g2, 5, none⟩ = some (.int .i64 e.b.num)) (first | go_keep | exact ⟨k0, k1, k2, k3, k4, k5, l0, l1, l2, l3, l4, l5⟩) (fail)
          all_goals
            go_wp2_with fail
            refine bodyPost_ret (v := .tuple #[.slice (some ⟨wc.heap.size, 0, none⟩) 2 2, .bool false]) (by simp [results, Try.results16, go_sem]) rfl ?_
            exact within_two (q := ⟨c.a, e.a⟩) (r := ⟨c.b, e.b⟩) (bb := false) (by rw [hin.out]; rfl) hbz
      · have t1 : (c.kind == e.kind) = false := by simpa using hk
        have hin : Hid (inner x y ⟨⟨4, (a : Int)⟩, ⟨4, (b : Int)⟩⟩ = none) := by show _ = _; rw [hin'.out, if_neg (fun h => hk h.1)]
        clear hk hin'
        clear k1 l1
        have K0 : (wc.alloc (.cells #[.int .i64 c.a.tag, .int .i64 c.a.num, .int .i64 e.a.tag, .int .i64 e.a.num, .int .i64 c.b.tag, .int .i64 c.b.num, .int .i64 e.b.tag, .int .i64 e.b.num] 43)).cell? ⟨g1, 0, none⟩ = some (.int .i64 c.kind) := ((bt_sm wc _).cell (p := ⟨g1, 0, none⟩) (World.block_lt_of_cell? wc _ k0)).trans k0
        have K2 : (wc.alloc (.cells #[.int .i64 c.a.tag, .int .i64 c.a.num, .int .i64 e.a.tag, .int .i64 e.a.num, .int .i64 c.b.tag, .int .i64 c.b.num, .int .i64 e.b.tag, .int .i64 e.b.num] 43)).cell? ⟨g1, 2, none⟩ = some (.int .i64 c.a.tag) := ((bt_sm wc _).cell (p := ⟨g1, 2, none⟩) (World.block_lt_of_cell? wc _ k2)).trans k2
        have K3 : (wc.alloc (.cells #[.int .i64 c.a.tag, .int .i64 c.a.num, .int .i64 e.a.tag, .int .i64 e.a.num, .int .i64 c.b.tag, .int .i64 c.b.num, .int .i64 e.b.tag, .int .i64 e.b.num] 43)).cell? ⟨g1, 3, none⟩ = some (.int .i64 c.a.num) := ((bt_sm wc _).cell (p := ⟨g1, 3, none⟩) (World.block_lt_of_cell? wc _ k3)).trans k3
        have K4 : (wc.alloc (.cells #[.int .i64 c.a.tag, .int .i64 c.a.num, .int .i64 e.a.tag, .int .i64 e.a.num, .int .i64 c.b.tag, .int .i64 c.b.num, .int .i64 e.b.tag, .int .i64 e.b.num] 43)).cell? ⟨g1, 4, none⟩ = some (.int .i64 c.b.tag) := ((bt_sm wc _).cell (p := ⟨g1, 4, none⟩) (World.block_lt_of_cell? wc _ k4)).trans k4
        have K5 : (wc.alloc (.cells #[.int .i64 c.a.tag, .int .i64 c.a.num, .int .i64 e.a.tag, .int .i64 e.a.num, .int .i64 c.b.tag, .int .i64 c.b.num, .int .i64 e.b.tag, .int .i64 e.b.num] 43)).cell? ⟨g1, 5, none⟩ = some (.int .i64 c.b.num) := ((bt_sm wc _).cell (p := ⟨g1, 5, none⟩) (World.block_lt_of_cell? wc _ k5)).trans k5
        have L0 : (wc.alloc (.cells #[.int .i64 c.a.tag, .int .i64 c.a.num, .int .i64 e.a.tag, .int .i64 e.a.num, .int .i64 c.b.tag, .int .i64 c.b.num, .int .i64 e.b.tag, .int .i64 e.b.num] 43)).cell? ⟨g2, 0, none⟩ = some (.int .i64 e.kind) := ((bt_sm wc _).cell (p := ⟨g2, 0, none⟩) (World.block_lt_of_cell? wc _ l0)).trans l0
        have L2 : (wc.alloc (.cells #[.int .i64 c.a.tag, .int .i64 c.a.num, .int .i64 e.a.tag, .int .i64 e.a.num, .int .i64 c.b.tag, .int .i64 c.b.num, .int .i64 e.b.tag, .int .i64 e.b.num] 43)).cell? ⟨g2, 2, none⟩ = some (.int .i64 e.a.tag) := ((bt_sm wc _).cell (p := ⟨g2, 2, none⟩) (World.block_lt_of_cell? wc _ l2)).trans l2
        have L3 : (wc.alloc (.cells #[.int .i64 c.a.tag, .int .i64 c.a.num, .int .i64 e.a.tag, .int .i64 e.a.num, .int .i64 c.b.tag, .int .i64 c.b.num, .int .i64 e.b.tag, .int .i64 e.b.num] 43)).cell? ⟨g2, 3, none⟩ = some (.int .i64 e.a.num) := ((bt_sm wc _).cell (p := ⟨g2, 3, none⟩) (World.block_lt_of_cell? wc _ l3)).trans l3
        have L4 : (wc.alloc (.cells #[.int .i64 c.a.tag, .int .i64 c.a.num, .int .i64 e.a.tag, .int .i64 e.a.num, .int .i64 c.b.tag, .int .i64 c.b.num, .int .i64 e.b.tag, .int .i64 e.b.num] 43)).cell? ⟨g2, 4, none⟩ = some (.int .i64 e.b.tag) := ((bt_sm wc _).cell (p := ⟨g2, 4, none⟩) (World.block_lt_of_cell? wc _ l4)).trans l4
        have L5 : (wc.alloc (.cells #[.int .i64 c.a.tag, .int .i64 c.a.num, .int .i64 e.a.tag, .int .i64 e.a.num, .int .i64 c.b.tag, .int .i64 c.b.num, .int .i64 e.b.tag, .int .i64 e.b.num] 43)).cell? ⟨g2, 5, none⟩ = some (.int .i64 e.b.num) := ((bt_sm wc _).cell (p := ⟨g2, 5, none⟩) (World.block_lt_of_cell? wc _ l5)).trans l5
        go_upto_region 4 with fail
        go_region
        all_goals
          go_wp2_with fail
          refine bodyPost_ret (v := .tuple #[.slice (some ⟨wc.heap.size, 0, none⟩) 2 2, .bool false]) (by simp [results, Try.results16, go_sem]) rfl ?_
          exact within_two (q := ⟨c.a, e.a⟩) (r := ⟨c.b, e.b⟩) (bb := false) (by rw [hin.out]; rfl) hbz
  · have hin : Hid (inner x y p = if p.x.tag = p.y.tag ∧ p.x.num = p.y.num then some [] else none) := by show _ = _; unfold inner; rw [if_neg h4]
    clear hvx hvy hx hy hp1
    by_cases hxt : p.x.tag = 4
    · have t1 : (p.x.tag != 4) = false := by simpa using hxt
      have hyt : ¬ p.y.tag = 4 := fun e => h4 ⟨hxt, e⟩
      have t2 : (p.y.tag != 4) = true := by simpa using hyt
      have HN : Hid (inner x y p = none) := by show _ = _; rw [hin.out, if_neg]; rintro ⟨e, _⟩; exact hyt (e ▸ hxt)
      have hne : (p.x.tag == p.y.tag) = false := by rw [beq_eq_false_iff_ne]; intro e; exact hyt (e ▸ hxt)
      clear h4 hxt hyt hin
      go_enter Try.func16, Try.ntmps16
      go_upto_region 2 with fail
      go_region
      go_wp2_with fail
      refine bodyPost_ret (v := .tuple #[.slice none 0 0, .bool false]) (by simp [results, Try.results16, go_sem]) rfl ?_
      exact within_no HN.out hb1.drew
    have t1 : (p.x.tag != 4) = true := by simpa using hxt
    by_cases he : p.x.tag = p.y.tag
    · have f1 : (p.x.tag == p.y.tag) = true := by simpa using he
      by_cases hn : p.x.num = p.y.num
      · have f2 : (p.x.num == p.y.num) = true := by simpa using hn
        have HN : Hid (inner x y p = some []) := by show _ = _; rw [hin.out, if_pos ⟨he, hn⟩]
        clear h4 hxt he hn hin
        go_enter Try.func16, Try.ntmps16
        go_upto_region 2 with fail
        go_region
        go_wp2_with fail
        refine bodyPost_ret (v := .tuple #[.slice none 0 0, .bool true]) (by simp [results, Try.results16, go_sem]) rfl ?_
        exact within_nil HN.out hb1.drew
      · have f2 : (p.x.num == p.y.num) = false := by simpa using hn
        have HN : Hid (inner x y p = none) := by show _ = _; rw [hin.out, if_neg (fun e => hn e.2)]
        clear h4 hxt he hn hin
        go_enter Try.func16, Try.ntmps16
        go_upto_region 2 with fail
        go_region
        go_wp2_with fail
        refine bodyPost_ret (v := .tuple #[.slice none 0 0, .bool false]) (by simp [results, Try.results16, go_sem]) rfl ?_
        exact within_no HN.out hb1.drew
    · have f1 : (p.x.tag == p.y.tag) = false := by simpa using he
      have HN : Hid (inner x y p = none) := by show _ = _; rw [hin.out, if_neg (fun e => he e.1)]
      clear h4 hxt he hin
      go_enter Try.func16, Try.ntmps16
      go_upto_region 2 with fail
      go_region
      go_wp2_with fail
      refine bodyPost_ret (v := .tuple #[.slice none 0 0, .bool false]) (by simp [results, Try.results16, go_sem]) rfl ?_
      exact within_no HN.out hb1.drew
end Go.Proofs.Ytpocmljbfcenfaa
