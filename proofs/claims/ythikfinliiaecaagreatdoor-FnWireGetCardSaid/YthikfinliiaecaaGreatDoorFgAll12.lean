/-
  The reader of a code: cells.
  The reader of a code is made.
  A reader that was just opened; a word's box.
-/
import Derived.Test.YthikfinliiaecaaGreatDoorRdBox
import Derived.Deep.Cut
import Derived.Deep.CutBlock
import Derived.Deep.DeepCutAuto
import Derived.Test.YthikfinliiaecaaGreatDoorFgAll1
import Derived.Deep.QuietTactic
import Derived.BigQuiet
namespace Go.Proofs.YthikfinliiaecaaGreatDoor
open Go.RowKit

/-- How cells are drawn. -/
def HeapDrawn (w w' : World) (g P : Nat) (r : Ending) : Prop := ∃ cs v, r = .returned v ∧ cs.length ≤ 20 ∧ OwnR 6 Ce.cells 48 w' w.heap.size cs v ∧ Rd w' g (P + 1000) ∧ w.grownBy w' (some g)
theorem rd_six (a b c d e f : Int) : ∀ u ∈ [Value.int .i64 a, .int .i64 b, .int .i64 c, .int .i64 d, .int .i64 e, .int .i64 f], u.oneCell' = true := fun u hu => by
  simp only [List.mem_cons, List.not_mem_nil, or_false] at hu
  rcases hu with rfl | rfl | rfl | rfl | rfl | rfl <;> rfl

set_option maxRecDepth 100000 in
set_option maxHeartbeats 4000000 in
theorem rd_heap (w : World) (g P : Nat) (hR : Rd w g P) (hP : P ≤ 700000) :
    Calls Tryz.prog 11 #[.pointer (some ⟨g, 0, none⟩)] w fun r w' => HeapDrawn w w' g P r := by
  obtain ⟨i0, hi, hz0, hz1, hz2⟩ := info_parts ceInfo
  have hgl := hR.lt
  go_enter Tryz.func11, Tryz.ntmps11
  go_wp2_with (go_at_call 38; refine (rd_one5 _ g (w.heap.size + 1) P 0 2 5 9 20 (rd_alloc (rd_alloc hR _) _) (by omega) (by simpa using nums_new (w.alloc (.cells #[] 48)) _ _ [0, 2, 5, 9, 20] rfl) (by omega) (by simp)).mono ?_; rintro r w2 ⟨n0, hn0, rfl, hR2, hg2⟩)
  have hO2 : OwnR 6 Ce.cells 48 w2 w.heap.size [] (.slice (some ⟨w.heap.size, 0, none⟩) 0 0) := rd_but (World.ownsRow.alloc (World.ownsRow_made w #[] 0 (Nat.le_refl _) (Nat.zero_le _) rfl) _) hg2 hgl
  have hw2 : w.grownBy w2 (some g) := ow_grown_trans (ow_but_below _ (((Below.refl _ _).alloc (Nat.le_refl _) _).alloc (by simp) _)) hg2
  clear hg2
  obtain ⟨m, rfl, hm⟩ : ∃ m : Nat, n0 = (m : Int) ∧ m ≤ 20 := by
    simp only [List.mem_cons, List.not_mem_nil, or_false] at hn0
    rcases hn0 with rfl | rfl | rfl | rfl | rfl
    · exact ⟨0, rfl, by omega⟩
    · exact ⟨2, rfl, by omega⟩
    · exact ⟨5, rfl, by omega⟩
    · exact ⟨9, rfl, by omega⟩
    · exact ⟨20, rfl, by omega⟩
  clear hn0
  go_loopg [3, 4] m (fun m v i wr => ∃ cs : List Ce, i = .int .i64 (m : Int) ∧ cs.length + m ≤ 20 ∧ OwnR 6 Ce.cells 48 wr w.heap.size cs v ∧ Rd wr g (P + 1 + 30 * cs.length) ∧ w.grownBy wr (some g))
  case atStart => exact ⟨[], rfl, by simp; omega, hO2, hR2, hw2⟩
  case round =>
    obtain ⟨cs, rfl, hlm, hO, hRr, hwr⟩ := hrel
    have hzr := hwr.size
    by_cases hm : 0 < gk
    · have hmi : (0 : Int) < (gk : Int) := by omega
      obtain ⟨a3, cap3, rfl⟩ : ∃ a cap, u3 = .slice a cs.length cap := (hO.row ce_len).slice
      go_upto_region 6 with fail
      go_cut [6] from 14 to 69 (fun s6 wc => ∃ C c, s6 = .pointer (some ⟨C, 0, none⟩) ∧ Box6 wc C c ∧ Held w g (P + 1 + 30 * cs.length + 5) cs (.slice a3 cs.length cap3) C wc)
      case first =>
        go_wp2_with (first
          | (go_at_call 14; refine (rd_pickZ _ g _ _ hRr (by omega) (by omega) (by omega)).mono ?_; rintro r w3 ⟨y, rfl, _, hR3, hg3⟩; have hO3 := rd_but hO hg3 hgl; have hw3 := ow_grown_trans hwr hg3)
          | (go_at_call 13; first
            | (refine (rd_word _ g _ _ hR4 (by omega) (by omega)).mono ?_; rintro r w5 ⟨t2, z2, rfl, hR5, hg5⟩; have hO5 := rd_but hO4 hg5 hgl; have hw5 := ow_grown_trans hw4 hg5)
            | (refine (rd_word _ g _ _ hR3 (by omega) (by omega)).mono ?_; rintro r w4 ⟨t1, z1, rfl, hR4, hg4⟩; have hO4 := rd_but hO3 hg4 hgl; have hw4 := ow_grown_trans hw3 hg4)))
        go_meet
        case rel => exact ⟨_, _, rfl, box6_new _ _ _ _ _ _ _ _, ⟨World.ownsRow.alloc hO5 _, fun k hk => (World.ownsRow.lt hO5 k hk).2, (rd_alloc hR5 _).mono (by omega), but_alloc hw5 _, hw5.size, hgl⟩⟩
      case rest =>
        obtain ⟨C, c, rfl, hBx, hH⟩ := hcut
        clear hO hRr hwr hzr
        have hCl := hH.low
        obtain ⟨b0, b1, b2, b3, b4, b5⟩ : _ ∧ _ ∧ _ ∧ _ ∧ _ ∧ _ := ⟨hBx.c0, hBx.c1, hBx.c2, hBx.c3, hBx.c4, hBx.c5⟩
        have bf := hBx.fr
        go_upto_if 32 with fail
        go_cut [6] from 14 to 69 (fun s6 wd => s6 = .pointer (some ⟨C, 0, none⟩) ∧ ∃ c, Box6 wd C c ∧ Held w g (P + 1 + 30 * cs.length + 25) cs (.slice a3 cs.length cap3) C wd)
        case first =>
          by_cases hk1 : c.kind = 1
          · have e1 : (c.kind != 1) = false := by simpa using hk1
            clear hk1
            go_wp2_with fail
            go_meet
            case rel => exact ⟨rfl, c, hBx, hH.mono (by omega)⟩
          · have e1 : (c.kind != 1) = true := by simpa using hk1
            clear hk1
            go_upto_if 37 with fail
            have hBy := hBx.setB 0 0
            have hHy := (hH.set (o := 4) (u := .int .i64 0)).set (o := 5) (u := .int .i64 0)
            go_cut [7] from 14 to 69 (fun s7 we => ∃ z : Int, s7 = .int .i64 z ∧ ∃ c, Box6 we C c ∧ Held w g (P + 1 + 30 * cs.length + 5) cs (.slice a3 cs.length cap3) C we)
            case first =>
              by_cases hk2 : c.kind = 2
              · have e2 : (c.kind == 2) = true := by simpa using hk2
                clear hk2
                go_wp2_with fail
                go_meet
                case rel => exact ⟨_, rfl, _, hBy, hHy⟩
              · have e2 : (c.kind == 2) = false := by simpa using hk2
                clear hk2
                go_wp2_with fail
                go_meet
                case rel => exact ⟨_, rfl, _, hBy, hHy⟩
            case rest =>
              clear hBy hHy hBx hH b0 b1 b2 b3 b4 b5 bf e1
              obtain ⟨z, rfl, c1, hBx, hH⟩ := hcut
              go_wp2_with fail
              go_loopg [8] cs.length (fun m i wi => ∃ (j : Nat) (c : Ce), j + m = cs.length ∧ i = .int .i64 (j : Int) ∧ Box6 wi C c ∧ Held w g (P + 1 + 30 * cs.length + 5 + j) cs (.slice a3 cs.length cap3) C wi)
              case atStart => exact ⟨0, c1, by omega, rfl, hBx, hH⟩
              case round =>
                clear hBx hH
                obtain ⟨j, c2, hj, rfl, hBx, hH⟩ := hrel
                by_cases hlt : j < cs.length
                · have hji : (j : Int) < (cs.length : Int) := by omega
                  obtain ⟨b, cap, hv, hkd⟩ := hH.at j hlt
                  obtain ⟨rfl, rfl⟩ : a3 = some ⟨b, 0, none⟩ ∧ cap3 = cap := by simpa using hv
                  clear hv
                  generalize cs[j].kind = kj at hkd
                  go_wp2_with (go_at_call 14; refine (rd_pickZ _ g _ _ hH.rd (by omega) (by omega) (by omega)).mono ?_; rintro r w3 ⟨y, rfl, _, hR3, hg3⟩; have hH3 := hH.but hg3 hR3; have hB3 := hBx.but hg3 (by omega); (obtain ⟨b4, b5, bf⟩ : _ ∧ _ ∧ _ := ⟨hB3.c4, hB3.c5, hB3.fr⟩))
                  · go_roundg (gk - 1)
                    case measure => omega
                    case rel => exact ⟨j + 1, _, by omega, by go_num, hB3.setB 4 j, ((hH3.set (o := 4)).set (o := 5)).mono (by omega)⟩
                  · go_roundg (gk - 1)
                    case measure => omega
                    case rel => exact ⟨j + 1, c2, by omega, by go_num, hB3, hH3.mono (by omega)⟩
                  · go_roundg (gk - 1)
                    case measure => omega
                    case rel => exact ⟨j + 1, c2, by omega, by go_num, hBx, hH.mono (by omega)⟩
                · obtain rfl : j = cs.length := by omega
                  have hji : ¬ (cs.length : Int) < (cs.length : Int) := by omega
                  go_wp2_with fail
                  go_meet
                  case rel => exact ⟨rfl, c2, hBx, hH.mono (by omega)⟩
        case rest =>
          clear hBx hH b0 b1 b2 b3 b4 b5 bf
          obtain ⟨rfl, c3, hBx, hH⟩ := hcut
          obtain ⟨b0, b1, b2, b3⟩ : _ ∧ _ ∧ _ ∧ _ := ⟨hBx.c0, hBx.c1, hBx.c2, hBx.c3⟩
          have bf := hBx.fr
          go_upto_if 60 with fail
          go_cut [6] from 14 to 69 (fun s6 wd => s6 = .pointer (some ⟨C, 0, none⟩) ∧ ∃ c, Box6 wd C c ∧ Held w g (P + 1 + 30 * cs.length + 26) cs (.slice a3 cs.length cap3) C wd)
          case first =>
            by_cases hk4 : 4 ≤ c3.kind
            · have hBy := hBx.setA 0 0
              have hHy := (hH.set (o := 2) (u := .int .i64 0)).set (o := 3) (u := .int .i64 0)
              go_wp2_with (go_at_call 14; refine (rd_pickZ _ g _ _ hHy.rd (by omega) (by omega) (by omega)).mono ?_; rintro r w3 ⟨y, rfl, _, hR3, hg3⟩; have hH3 := hHy.but hg3 hR3; have hB3 := hBy.but hg3 (by omega); (obtain ⟨d1, df⟩ : _ ∧ _ := ⟨hB3.c1, hB3.fr⟩))
              go_meet
              case rel => exact ⟨rfl, _, hB3.setN y, (hH3.set (o := 1)).mono (by omega)⟩
            · go_wp2_with fail
              go_meet
              case rel => exact ⟨rfl, c3, hBx, hH.mono (by omega)⟩
          case rest =>
            clear hBx hH b0 b1 b2 b3 bf
            obtain ⟨rfl, c4, hBx, hH⟩ := hcut
            obtain ⟨b0, b1, b2, b3, b4, b5⟩ : _ ∧ _ ∧ _ ∧ _ ∧ _ ∧ _ := ⟨hBx.c0, hBx.c1, hBx.c2, hBx.c3, hBx.c4, hBx.c5⟩
            have hO := hH.own
            have hzc := hH.grown.size
            go_wp2_with (at_builtin; refine wpList_append_own _ rfl _ _ 24 rfl w.heap.size 48 i0 (.agg #[.int .i64 0, .int .i64 0, .int .i64 0, .int .i64 0, .int .i64 0, .int .i64 0]) 6 48 Tryz.underlying24 hi hz0 hz1 hz2 rfl (by decide) _ _ _ rfl (World.ownsRow.alloc hO _) ⟨wc.heap.size, 0, none⟩ 1 1 [.int .i64 c4.kind, .int .i64 c4.num, .int .i64 c4.a.tag, .int .i64 c4.a.num, .int .i64 c4.b.tag, .int .i64 c4.b.num] rfl rfl (ow_cells_new _ _ _) (rd_six _ _ _ _ _ _) (by unfold maxLen; omega) (by omega) (by simp; omega) ?_; intro v8 w8 hO8 hG8 hN8)
            go_roundg (gk - 1)
            case measure => omega
            case rel => exact ⟨cs ++ [c4], by go_num, by simp; omega, OwnR.snoc (x := c4) hO8, by rw [List.length_append]; exact (rd_grow (rd_alloc hH.rd _) hG8 (fun k hk => by have := (hO.lt k hk).1; omega)).mono (by simp; omega), grow_on (but_alloc hH.grown _) hG8 (fun k hk => (hO.lt k hk).1)⟩
    · obtain rfl : gk = 0 := by omega
      obtain ⟨a3, cap3, rfl⟩ : ∃ a cap, u3 = .slice a cs.length cap := (hO.row ce_len).slice
      by_cases hl1 : 1 < cs.length
      · have hli : (1 : Int) < (cs.length : Int) := by omega
        obtain ⟨b, cap, hv, hb0⟩ : ∃ b cap, (.slice a3 cs.length cap3 : Value) = .slice (some ⟨b, 0, none⟩) cs.length cap ∧ w.heap.size ≤ b := by
          rcases hO.2 with ⟨h1, h2⟩ | ⟨b, cap, cur, h1, h2, _⟩
          · omega
          · exact ⟨b, cap, h1, h2⟩
        obtain ⟨rfl, rfl⟩ : a3 = some ⟨b, 0, none⟩ ∧ cap3 = cap := by simpa using hv
        clear hv
        have hF : Fin6 w g (P + 1 + 30 * cs.length) cs.length b cap3 wr := ⟨⟨cs, rfl, hO⟩, hRr, hwr, hgl, hb0⟩
        have hend : ∀ w' Q, Fin6 w g Q cs.length b cap3 w' → Q ≤ P + 1000 → HeapDrawn w w' g P (.returned (.slice (some ⟨b, 0, none⟩) cs.length cap3)) := fun w' Q h hQ => by
          obtain ⟨cs', hl', hO'⟩ := h.row
          exact ⟨cs', _, rfl, by omega, hO', h.rd.mono hQ, h.grown⟩
        have hle : cs.length ≤ 20 := by omega
        clear hO hRr hwr hzr hlm
        generalize cs.length = n at *
        go_upto_region 22 with (go_at_call 14; refine (rd_pickZ _ g _ _ hF.rd (by omega) (by omega) (by omega)).mono ?_; rintro r w3 ⟨y, rfl, _, hR3, hg3⟩; have hF3 := hF.but hg3 hR3)
        · go_upto_region 27 with (go_at_call 14; first
            | (refine (rd_pickZ _ g _ _ hF4.rd (by omega) (by omega) (by omega)).mono ?_; rintro r w5 ⟨y5, rfl, hy5, hR5, hg5⟩; have hF5 := hF4.but hg5 hR5)
            | (refine (rd_pickZ _ g _ _ hF3.rd (by omega) (by omega) (by omega)).mono ?_; rintro r w4 ⟨k, rfl, hk, hR4, hg4⟩; have hF4 := hF3.but hg4 hR4))
          have hkn : k < n := by omega
          have hki : (k : Int) < (n : Int) := by omega
          have hn0 : (0 : Int) < (n : Int) := by omega
          clear hF hF3 hF4 hR3 hR4 hg3 hg4 hg5
          obtain ⟨⟨p0, P0⟩, ⟨p1, P1⟩, ⟨p2, P2⟩, ⟨p3, P3⟩, ⟨p4, P4⟩, ⟨p5, P5⟩, PF⟩ := hF5.open k hkn
          have f0 := PF 0 (by omega)
          have f1 := PF 1 (by omega)
          have f2 := PF 2 (by omega)
          have f3 := PF 3 (by omega)
          have f4 := PF 4 (by omega)
          have f5 := PF 5 (by omega)
          rw [Nat.add_zero] at f0
          have hy : y5 = 0 ∨ y5 = 1 ∨ y5 = 2 ∨ y5 = 3 ∨ y5 = 4 := by omega
          clear hy5 PF
          rcases hy with rfl | rfl | rfl | rfl | rfl
          · go_wp2_with (go_at_call 14; refine (rd_pickZ _ g _ _ hF5.rd (by omega) (by omega) (by omega)).mono ?_; rintro r w6 ⟨y6, rfl, _, hR6, hg6⟩; have hF6 := hF5.but hg6 hR6; (obtain ⟨⟨q0, Q0⟩, _, _, _, _, _, QF⟩ := hF6.open k hkn); have g0 := QF 0 (by omega); rw [Nat.add_zero] at g0)
            go_ret
            exact hend _ _ (hF6.set k 0 hkn (by omega) _) (by omega)
          · go_wp2_with fail
            go_ret
            exact hend _ _ ((hF5.set k 2 hkn (by omega) _).set k 3 hkn (by omega) _) (by omega)
          · go_wp2_with (go_at_call 14; first
              | (refine (rd_pickZ _ g _ _ hF6.rd (by omega) (by omega) (by omega)).mono ?_; rintro r w7 ⟨y7, rfl, _, hR7, hg7⟩; have hF7 := hF6.but hg7 hR7; (obtain ⟨_, _, _, _, ⟨q4, Q4⟩, ⟨q5, Q5⟩, QF⟩ := hF7.open k hkn); have g4 := QF 4 (by omega); have g5 := QF 5 (by omega))
              | (refine (rd_pickZ _ g _ _ hF5.rd (by omega) (by omega) (by omega)).mono ?_; rintro r w6 ⟨y6, rfl, _, hR6, hg6⟩; have hF6 := hF5.but hg6 hR6))
            go_ret
            exact hend _ _ ((hF7.set k 4 hkn (by omega) _).set k 5 hkn (by omega) _) (by omega)
          · go_wp2_with (go_at_call 38; refine (rd_one3 _ g w5.heap.size _ (-1) 1 200 (rd_alloc hF5.rd _) (by omega) (nums_new _ _ _ _ rfl) (by have := hF5.rd.lt; omega) (by simp)).mono ?_; rintro r w6 ⟨z6, _, rfl, hR6, hg6⟩; have hF6 := hF5.but (ow_grown_trans (ow_but_below _ ((Below.refl _ _).alloc (Nat.le_refl _) _)) hg6) hR6; (obtain ⟨_, ⟨q1, Q1⟩, _, _, _, _, QF⟩ := hF6.open k hkn); have g1 := QF 1 (by omega))
            go_ret
            exact hend _ _ (hF6.set k 1 hkn (by omega) _) (by omega)
          · clear P0 P1 P2 P3 P4 P5 f0 f1 f2 f3 f4 f5
            obtain ⟨⟨p0, P0⟩, ⟨p1, P1⟩, ⟨p2, P2⟩, ⟨p3, P3⟩, _, _, PF⟩ := hF5.open 0 (by omega)
            have f0 := PF 0 (by omega)
            have f1 := PF 1 (by omega)
            have f2 := PF 2 (by omega)
            have f3 := PF 3 (by omega)
            simp only [Nat.zero_mul, Nat.zero_add] at P0 P1 P2 P3 f0 f1 f2 f3
            go_wp2_with fail
            go_ret
            exact hend _ _ ((((hF5.set 0 2 (by omega) (by omega) _).set 0 3 (by omega) (by omega) _).set 0 0 (by omega) (by omega) _).set 0 1 (by omega) (by omega) _) (by omega)
        · go_ret
          exact hend _ _ hF3 (by omega)
      · have hli : ¬ (1 : Int) < (cs.length : Int) := by omega
        go_wp2_with fail
        go_ret
        exact ⟨cs, _, rfl, by omega, hO, hRr.mono (by omega), hwr⟩
end Go.Proofs.YthikfinliiaecaaGreatDoor

namespace Go.Proofs.YthikfinliiaecaaGreatDoor
open Go.RowKit

set_option maxHeartbeats 1000000 in
theorem spec_l20Open (w : World) (len : Nat) (v : Value) (hv : Bytes w w.heap.size len v) :
    Calls Tryz.prog 10 #[v] w fun r w' => ∃ v' len', r = .returned (.pointer (some ⟨w.heap.size, 0, none⟩)) ∧ Bytes w w.heap.size len' v' ∧ len' ≤ 2000 ∧ w' = w.alloc (.cells #[v', .int .i64 0] 76) := by
  have hv0 := hv
  obtain ⟨a, cap, rfl, h1, h2, h3⟩ := hv
  unfold maxLen at h2
  by_cases h : 2000 < len
  · have hi : (2000 : Int) < (len : Int) := by omega
    obtain ⟨b, off, x, rfl, _⟩ := h3 0 (by omega)
    have hcap : ¬ cap = 0 := by omega
    go_enter Tryz.func10, Tryz.ntmps10
    go_wp2_with fail
    go_ret
    exact ⟨_, 2000, rfl, ⟨_, cap, rfl, by omega, by unfold maxLen; omega, fun i hi => h3 i (by omega)⟩, Nat.le_refl _, rfl⟩
  · have hi : ¬ (2000 : Int) < (len : Int) := by omega
    go_enter Tryz.func10, Tryz.ntmps10
    go_wp2_with fail
    go_ret
    exact ⟨rfl, _, len, hv0, by omega, rfl⟩

end Go.Proofs.YthikfinliiaecaaGreatDoor

namespace Go.Proofs.YthikfinliiaecaaGreatDoor
open Go.RowKit

theorem rd_openedW {w : World} {len : Nat} {v : Value} (hv : Bytes w w.heap.size len v) (hlen : len ≤ 2000) : Rd (w.alloc (.cells #[v, .int .i64 0] 76)) w.heap.size 0 := by
  obtain ⟨a, cap, rfl, _, _, h3⟩ := hv
  have key : ∀ j, (w.alloc (.cells #[.slice a len cap, .int .i64 0] 76)).cell? ⟨w.heap.size, j, none⟩ = (#[.slice a len cap, .int .i64 0] : Array Value)[j]? := fun j => cell_of_row _ _ _ _ _ _ (heap_alloc_new w _)
  refine ⟨a, len, cap, 0, hlen, Nat.le_refl _, by simp, key 0, key 1, by simp, fun i hi => ?_⟩
  obtain ⟨b, off, x, ha, hb, hc, hx⟩ := h3 i hi
  exact ⟨b, off, x, ha, hb, by rw [((Below.refl _ _).alloc (Nat.le_refl _) _ : Below w.heap.size w _).cell (p := ⟨b, off + i, none⟩) hb]; exact hc, hx⟩
theorem below_butW {w w1 w2 : World} {g : Nat} (h : Below w.heap.size w w1) (hg : w1.grownBy w2 (some g)) (hB : w.heap.size ≤ g) : Below w.heap.size w w2 :=
  h.grown hg h.size (fun k hk => by cases hk; exact hB)
abbrev boxV (d : Wd) : Obj := .cells #[.int .i64 d.tag, .int .i64 d.num] 26
theorem boxV_two {w : World} {g : Nat} {d : Wd} (h : w.heap[g]? = some (boxV d)) : (w.cell? ⟨g, 0, none⟩ = some (.int .i64 d.tag) ∧ w.cell? ⟨g, 1, none⟩ = some (.int .i64 d.num)) ∧ ∀ o, w.frozen? ⟨g, o, none⟩ = false := by
  have key := fun j => cell_of_row _ _ j _ _ _ h
  refine ⟨⟨key 0, key 1⟩, fun o => ?_⟩
  unfold World.frozen?
  rw [h]
  simp
theorem set_twoV {w : World} {b c : Nat} {v0 v1 : Value} (hne : c ≠ b) : ((w.setCell ⟨b, 0, none⟩ v0).setCell ⟨b, 1, none⟩ v1).heap[c]? = w.heap[c]? := by
  rw [Below.heap_setCell _ _ _ _ hne, Below.heap_setCell _ _ _ _ hne]

end Go.Proofs.YthikfinliiaecaaGreatDoor

