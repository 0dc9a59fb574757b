/-
  Cells that say the same: the specification's l18Add.
-/
import Derived.Test.YtpocmljbfcenfaaSmSpec
import Derived.Test.YtpocmljbfcenfaaOwRow
import Derived.Test.YtpocmljbfcenfaaHoSpec
import Derived.BigQuiet
import Derived.Deep.QuietTactic
import Derived.Deep.LoopGhost
import Derived.Deep.Cut
namespace Go.Proofs.Ytpocmljbfcenfaa
open Go.RowKit

def prV (p : Nat × Nat) : List Value := [.int .i64 (p.1 : Int), .int .i64 (p.2 : Int)]
theorem pr_len : ∀ p, (prV p).length = 2 := fun _ => rfl
abbrev OwnP (w : World) (B : Nat) (T : Prs) (v : Value) : Prop := OwnR 2 prV 54 w B T v
theorem prInfo : (Try.prog.info? 54).map (fun i => (i.zero, i.size, i.bytes)) = some (some (.agg #[.int .i64 0, .int .i64 0]), 2, 16) := by kernel_rfl
theorem pr_one (a b : Int) : ∀ u ∈ [Value.int .i64 a, .int .i64 b], u.oneCell' = true := fun u hu => by
  simp only [List.mem_cons, List.not_mem_nil, or_false] at hu
  rcases hu with rfl | rfl <;> rfl
theorem pr_snoc {w : World} {B m n : Nat} {T : Prs} {v : Value} (h : w.ownsRow B 54 2 v (T.length + 1) (T.flatMap prV ++ [.int .i64 (m : Int), .int .i64 (n : Int)])) : OwnP w B (T ++ [(m, n)]) v := OwnR.snoc (x := (m, n)) h
abbrev wdBox (d : Wd) : Obj := .cells #[.int .i64 d.tag, .int .i64 d.num] 29

set_option maxRecDepth 100000 in
set_option maxHeartbeats 2000000 in
theorem spec_l18Add (T : Prs) (hT : T.length ≤ 20000) (d x : Wd) (hd : d.tag = 4 → 0 ≤ d.num) (hx : d.tag = 4 → 0 ≤ x.num) (B : Nat) (w : World) (v : Value) (hO : OwnP w B T v) (hB : B ≤ w.heap.size) :
    Calls Try.prog 22 #[v, .agg #[.int .i64 d.tag, .int .i64 d.num], .agg #[.int .i64 x.tag, .int .i64 x.num]] w fun r w' => ∃ v', r = .returned v' ∧ OwnP w' B (addP T d x) v' ∧ Below B w w' ∧ w.grownBy w' v.ownBlock := by
  obtain ⟨i0, hi0, hz0, hz1, hz2⟩ := info_parts prInfo
  obtain ⟨a, cap, rfl⟩ := (hO.row pr_len).slice
  by_cases ht : d.tag = 4
  · obtain ⟨t, m⟩ := d
    obtain ⟨t', n⟩ := x
    obtain rfl : t = 4 := ht
    obtain ⟨m, rfl⟩ : ∃ k : Nat, m = k := Int.eq_ofNat_of_zero_le (hd rfl)
    obtain ⟨n, rfl⟩ : ∃ k : Nat, n = k := Int.eq_ofNat_of_zero_le (hx rfl)
    have eA : addP T ⟨4, m⟩ ⟨t', n⟩ = if (m, n) ∈ T then T else T ++ [(m, n)] := by unfold addP; simp
    obtain ⟨R, hR⟩ : ∃ R, Hid (R = if (m, n) ∈ T then T else T ++ [(m, n)]) := ⟨_, rfl⟩
    rw [eA, ← hR.out]
    clear eA hd hx
    have hb3 : Below w.heap.size w (((w.alloc (wdBox ⟨4, m⟩)).alloc (wdBox ⟨t', n⟩)).alloc (.cells #[.int .i64 (m : Int), .int .i64 (n : Int)] 54)) := (sm_two w _ _).alloc (by simp; omega) _
    have hc3 : ∀ j, (((w.alloc (wdBox ⟨4, m⟩)).alloc (wdBox ⟨t', n⟩)).alloc (.cells #[.int .i64 (m : Int), .int .i64 (n : Int)] 54)).cell? ⟨w.heap.size + 1 + 1, j, none⟩ = (#[.int .i64 (m : Int), .int .i64 (n : Int)] : Array Value)[j]? := fun j => by
      have := cell_of_row _ _ j _ _ _ (heap_alloc_new ((w.alloc (wdBox ⟨4, m⟩)).alloc (wdBox ⟨t', n⟩)) (.cells #[.int .i64 (m : Int), .int .i64 (n : Int)] 54))
      simpa using this
    go_enter Try.func22, Try.ntmps22
    go_upto_region 4 with fail
    change Code.wp _ _ _ _ (((w.alloc (wdBox ⟨4, m⟩)).alloc (wdBox ⟨t', n⟩)).alloc (.cells #[.int .i64 (m : Int), .int .i64 (n : Int)] 54))
    have hz3 : w.heap.size + 1 + 1 < (((w.alloc (wdBox ⟨4, m⟩)).alloc (wdBox ⟨t', n⟩)).alloc (.cells #[.int .i64 (m : Int), .int .i64 (n : Int)] 54)).heap.size := by simp
    generalize ((w.alloc (wdBox ⟨4, m⟩)).alloc (wdBox ⟨t', n⟩)).alloc (.cells #[.int .i64 (m : Int), .int .i64 (n : Int)] 54) = W3 at *
    have KP : Hid (∀ w', Below W3.heap.size W3 w' → (w'.cell? ⟨w.heap.size + 1 + 1, 0, none⟩ = some (.int .i64 (m : Int)) ∧ w'.cell? ⟨w.heap.size + 1 + 1, 1, none⟩ = some (.int .i64 (n : Int))) ∧ OwnP w' B T (.slice a T.length cap) ∧ Below w.heap.size w w') := fun w' h =>
      ⟨⟨by rw [h.cell (p := ⟨w.heap.size + 1 + 1, 0, none⟩) hz3]; exact hc3 0, by rw [h.cell (p := ⟨w.heap.size + 1 + 1, 1, none⟩) hz3]; exact hc3 1⟩, (hO.keep hb3).keep h, hc_next hb3 h⟩
    clear hc3 hb3 hO hz3
    go_wp2_with fail
    go_loopg [8] T.length (fun g i wr => ∃ k : Nat, k + g = T.length ∧ i = .int .i64 k ∧ Hid (∀ j (_ : j < k) (h : j < T.length), T[j] ≠ (m, n)) ∧ Below W3.heap.size W3 wr)
    case atStart => exact ⟨0, by omega, rfl, fun j hj => absurd hj (by omega), Below.refl _ _⟩
    case round =>
      obtain ⟨k, hk, rfl, hN, hBr⟩ := hrel
      obtain ⟨⟨c0, c1⟩, hOr, hBw⟩ := KP.out _ hBr
      by_cases hlt : k < T.length
      · obtain ⟨b1, o1, _, rfl, r1⟩ := (hOr.row pr_len).at k hlt
        have hi : (k : Int) < (T.length : Int) := by omega
        have d0 : wr.cell? ⟨b1, o1 + k * 2, none⟩ = some (.int .i64 (T[k].1 : Int)) := r1 0 _ rfl
        have d1 : wr.cell? ⟨b1, o1 + k * 2 + 1, none⟩ = some (.int .i64 (T[k].2 : Int)) := r1 1 _ rfl
        clear r1
        by_cases he : T[k] = (m, n)
        · have hin : (m, n) ∈ T := he ▸ List.getElem_mem hlt
          have hif : Hid (R = T) := hR.out.trans (if_pos hin)
          rw [he] at d0 d1
          clear he hin hN
          go_wp2_with fail
          go_quiet (fail)
          go_wp2_with fail
          go_ret
          exact ⟨_, rfl, by rw [hif.out]; exact OwnR.keep hOr (ho_drewN (Below.refl _ _) _), (ho_drewN hBw _).mono hB, ow_but_below _ (ho_drewN hBw _)⟩
        · have hN2 : Hid (∀ j (_ : j < k + 1) (h : j < T.length), T[j] ≠ (m, n)) := fun j hj h => by
            by_cases e : j = k
            · subst e; exact he
            · exact hN.out j (by omega) h
          generalize T[k] = pr at *
          obtain ⟨p1, p2⟩ := pr
          simp only at d0 d1
          by_cases e1 : p1 = m
          · have e2 : ¬ p2 = n := fun e => he (by rw [e1, e])
            subst e1
            have f2 : ¬ (p2 : Int) = (n : Int) := by omega
            have f2' : ((p2 : Int) == (n : Int)) = false := beq_eq_false_iff_ne.2 f2
            clear he e2
            go_wp2_with fail
            go_quiet (fail)
            go_wp2_with fail
            go_roundg (T.length - (k + 1))
            case measure => omega
            case rel => exact ⟨k + 1, by omega, by go_num, hN2, ho_drewN hBr _⟩
          · have f1 : ¬ (p1 : Int) = (m : Int) := by omega
            have f1' : ((p1 : Int) == (m : Int)) = false := beq_eq_false_iff_ne.2 f1
            clear he e1
            go_wp2_with fail
            go_quiet (fail)
            go_wp2_with fail
            go_roundg (T.length - (k + 1))
            case measure => omega
            case rel => exact ⟨k + 1, by omega, by go_num, hN2, ho_drewN hBr _⟩
      · obtain rfl : k = T.length := by omega
        have hi : ¬ (T.length : Int) < (T.length : Int) := by omega
        have hni : (m, n) ∉ T := fun h => by
          obtain ⟨j, hj, e⟩ := List.getElem_of_mem h
          exact hN.out j hj hj e
        have hif : Hid (R = T ++ [(m, n)]) := hR.out.trans (if_neg hni)
        have hzr : B ≤ wr.heap.size := Nat.le_trans hB hBw.size
        clear hni hN
        go_wp2_with (at_builtin; refine wpList_append_own _ rfl _ _ 55 rfl B 54 i0 (.agg #[.int .i64 0, .int .i64 0]) 2 16 Try.underlying55 hi0 hz0 hz1 hz2 rfl (by decide) _ _ _ rfl (hOr.alloc _) ⟨wr.heap.size, 0, none⟩ 1 1 [.int .i64 (m : Int), .int .i64 (n : Int)] rfl rfl (ow_cells_new _ _ _) (pr_one m n) (by unfold maxLen; omega) (by omega) (by simp; omega) ?_; intro v5 w5 hown5 hgrow5 hnil5)
        go_ret
        exact ⟨_, rfl, by rw [hif.out]; exact pr_snoc hown5, ((hBw.mono hB).alloc hzr _).grown hgrow5 (by simp; omega) (fun b hb => (hOr.lt b hb).1), ow_grown_trans (ow_but_below _ (hBw.alloc hBw.size _)) hgrow5⟩
  · have ht' : (d.tag != 4) = true := by simpa using ht
    have eA : addP T d x = T := if_neg ht
    rw [eA]
    clear eA ht hd hx
    go_enter Try.func22, Try.ntmps22
    go_wp2_with fail
    go_ret
    exact ⟨_, rfl, hO.keep (sm_two _ _ _), (sm_two _ _ _).mono hB, ow_but_below _ (sm_two _ _ _)⟩
end Go.Proofs.Ytpocmljbfcenfaa
