/-
  The law's own eqStringS, markStringS, heldStringS.
-/
import Derived.Test.YtkkjpiikilhobaaGreatDoorNtMarkE
import Derived.Test.YtkkjpiikilhobaaGreatDoorNkStep
import Derived.Deep.RegionHeld3
import Derived.Deep.QuietTactic
import Derived.BigQuiet
namespace Go.Proofs.YtkkjpiikilhobaaGreatDoor
open Go.RowKit

set_option maxHeartbeats 400000 in
theorem law_eqStringS (l : List ByteArray) (v1 v2 : Value) (w : World) (hl : l.length ≤ 1000000) (h1 : Env w l v1) (h2 : Env w l v2) :
    Calls Tryz.prog 8 #[v1, v2] w fun r w' => r = .returned (.bool true) ∧ Below w.heap.size w w' := by
  obtain ⟨a1, cap1, rfl, hc1⟩ := h1.open
  obtain ⟨a2, cap2, rfl, hc2⟩ := h2.open
  go_enter Tryz.func8, Tryz.ntmps8
  go_wp2_with fail
  go_loopw [5] (fun i wr => ∃ k : Nat, k ≤ l.length ∧ i = .int .i64 k ∧ ∃ n, wr = w.drewN n) (fun i _ => l.length - (intOf i).toNat)
  case atStart => exact ⟨0, by omega, rfl, 0, rfl⟩
  case round =>
    obtain ⟨k, hk, rfl, n, rfl⟩ := hrel
    by_cases hlt : k < l.length
    · obtain ⟨g1, rfl, d1⟩ := hc1 k hlt
      obtain ⟨g2, rfl, d2⟩ := hc2 k hlt
      have hi : (k : Int) < (l.length : Int) := by omega
      have e1 : (w.drewN n).cell? ⟨g1, k, none⟩ = some (.string l[k]) := d1
      have e2 : (w.drewN n).cell? ⟨g2, k, none⟩ = some (.string l[k]) := d2
      go_wp2_with fail
      go_quiet (fail)
      go_wp2_with fail
      go_roundw
      case rel => exact ⟨k + 1, by omega, by go_num, n + _, rfl⟩
      case measure => simp [intOf]; omega
    · go_wp2_with fail
      go_ret
      exact ⟨rfl, ⟨rfl, rfl, rfl, Nat.le_refl _, fun _ _ => rfl⟩⟩

/-- So many marks. -/
def marksL (n k : Nat) : List ByteArray := (List.range n).map fun i => markT (k + i)
theorem marksL_length (n k : Nat) : (marksL n k).length = n := by simp [marksL]
theorem marksL_get (n k i : Nat) (h' : i < (marksL n k).length) : (marksL n k)[i] = markT (k + i) := by simp [marksL]
theorem owned_set {w : World} {B g n cap : Nat} {l : List ByteArray} (h : w.ownsRow B 9 1 (.slice (some ⟨g, 0, none⟩) n cap) n (l.map .string)) (i : Nat) (s : ByteArray) : (w.setCell ⟨g, i, none⟩ (.string s)).ownsRow B 9 1 (.slice (some ⟨g, 0, none⟩) n cap) n ((l.set i s).map .string) := by
  obtain ⟨h1, ⟨h2, _⟩ | ⟨g', cap', cur, hv, hg, hh, hn, hm, hs, ht⟩⟩ := h
  · cases h2
  · obtain ⟨rfl, rfl⟩ : g = g' ∧ cap = cap' := by simpa using hv
    refine ⟨by simpa using h1, Or.inr ⟨g, cap, cur.setIfInBounds i (.string s), rfl, hg, ?_, hn, hm, by simpa using hs, ?_⟩⟩
    · unfold World.setCell
      simp only [Array.getElem?_modify]
      simp
      exact ⟨_, hh, by simp⟩
    · rw [Array.toList_setIfInBounds, List.take_set, ht, List.map_set]
theorem owned_cell {w : World} {B g n cap : Nat} {l : List ByteArray} (h : w.ownsRow B 9 1 (.slice (some ⟨g, 0, none⟩) n cap) n (l.map .string)) (i : Nat) (hi : i < l.length) : w.cell? ⟨g, i, none⟩ = some (.string l[i]) ∧ w.frozen? ⟨g, i, none⟩ = false := by
  have hc := h.cells (g := g) rfl i (.string l[i]) (by simp [hi])
  rw [Addr.add_mid] at hc
  obtain ⟨h1, ⟨h2, _⟩ | ⟨g', cap', cur, hv, hg, hh, hn, hm, hs, ht⟩⟩ := h
  · cases h2
  · obtain ⟨rfl, rfl⟩ : g = g' ∧ cap = cap' := by simpa using hv
    refine ⟨by simpa using hc, ?_⟩
    unfold World.frozen?
    rw [hh]
    simp
/-- The first i of a list are marks. -/
def marksTo (l : List ByteArray) (k i : Nat) : List ByteArray := (marksL l.length k).take i ++ l.drop i
theorem marksTo_length (l : List ByteArray) (k i : Nat) (h : i ≤ l.length) : (marksTo l k i).length = l.length := by simp [marksTo, marksL]; omega
theorem marksTo_zero (l : List ByteArray) (k : Nat) : marksTo l k 0 = l := by simp [marksTo]
theorem marksTo_end (l : List ByteArray) (k : Nat) : marksTo l k l.length = marksL l.length k := by
  rw [marksTo, List.take_of_length_le (by rw [marksL_length]; exact Nat.le_refl _), List.drop_length, List.append_nil]
theorem marksTo_next (l : List ByteArray) (k i : Nat) (h : i < l.length) : (marksTo l k i).set i (markT (k + i)) = marksTo l k (i + 1) := by
  have hl : ((marksL l.length k).take i).length = i := by rw [List.length_take, marksL_length]; omega
  have hm : i < (marksL l.length k).length := by rw [marksL_length]; exact h
  rw [marksTo, List.set_append_right _ _ (by omega), hl, Nat.sub_self, List.drop_eq_getElem_cons h, List.set_cons_zero, marksTo, List.take_succ_eq_append_getElem hm, marksL_get, List.append_assoc]
  rfl

/-- How markStringS ends. -/
def MarkedT (w w' : World) (B n k : Nat) (v : Value) (r : Ending) : Prop := r = .returned (.int .i64 ((k + n : Nat) : Int)) ∧ w'.ownsRow B 9 1 v n ((marksL n k).map .string) ∧ w.grownBy w' v.ownBlock

set_option maxHeartbeats 1000000 in
theorem law_markStringS (l : List ByteArray) (v : Value) (w : World) (B k : Nat) (hl : l.length ≤ 1000000) (hk1 : 1 ≤ k) (hk : k ≤ 1000000) (h : w.ownsRow B 9 1 v l.length (l.map .string)) :
    Calls Tryz.prog 11 #[v, .int .i64 k] w fun r w' => MarkedT w w' B l.length k v r := by
  have hcases := h.2
  rcases hcases with ⟨rfl, hn⟩ | ⟨g, cap, cur, rfl, hg, hh, _⟩
  · have hl0 := List.length_eq_zero_iff.1 hn
    subst hl0
    go_enter Tryz.func11, Tryz.ntmps11
    go_wp2_with fail
    go_loopw [1, 5] (fun u i wr => i = .int .i64 0 ∧ u = .int .i64 k ∧ wr = w) (fun _ _ _ => 0)
    case atStart => exact ⟨rfl, rfl, rfl⟩
    case round =>
      obtain ⟨rfl, rfl, rfl⟩ := hrel
      go_wp2_with fail
      go_ret
      exact ⟨rfl, by simpa [marksL] using h, World.grownBy.refl _ _⟩
  · have hgw : g < w.heap.size := (Array.getElem?_eq_some_iff.1 hh).1
    go_enter Tryz.func11, Tryz.ntmps11
    go_wp2_with fail
    go_loopw [1, 5] (fun u i wr => ∃ j : Nat, j ≤ l.length ∧ i = .int .i64 j ∧ u = .int .i64 ((k : Int) + j) ∧ wr.ownsRow B 9 1 (.slice (some ⟨g, 0, none⟩) l.length cap) l.length ((marksTo l k j).map .string) ∧ w.grownBy wr (some g)) (fun _ i _ => l.length - (intOf i).toNat)
    case atStart => exact ⟨0, by omega, rfl, by simp, by rw [marksTo_zero]; exact h, World.grownBy.refl _ _⟩
    case round =>
      obtain ⟨j, hj, rfl, rfl, hO, hG⟩ := hrel
      by_cases hlt : j < l.length
      · have hzG := hG.size
        have hgr : g < wr.heap.size := by omega
        have hmt : ∀ (z : Int), z = (k : Int) + j → ∀ w : World, Calls Tryz.prog 23 #[.int .i64 z] w fun r w' => r = .returned (.string (markT (k + j))) ∧ Below w.heap.size w w' := fun z hz w => by subst hz; simpa using law_markText (k + j) (by omega) (by omega) w
        have HN : Hid ((marksTo l k j).set j (markT (k + j)) = marksTo l k (j + 1)) := marksTo_next l k j hlt
        have hij : (j : Int) < (l.length : Int) := by omega
        have HL : Hid (j < (marksTo l k j).length) := by rw [marksTo_length l k j hj]; exact hlt
        go_wp2_with (go_at_call 23; refine (hmt _ rfl _).mono ?_; rintro r w2 ⟨rfl, hb2⟩; have hO2 := ownsRow_keep hO hb2; obtain ⟨c2, f2⟩ := owned_cell hO2 j HL.out)
        go_roundw
        case rel => exact ⟨j + 1, by omega, by go_num, by go_num, by rw [← HN.out]; exact owned_set hO2 j _, hG.trans ((but_of_below' g hb2).trans (but_one' w2 g j _))⟩
        case measure => simp [intOf]; omega
      · obtain rfl : j = l.length := by omega
        go_wp2_with fail
        go_ret
        exact ⟨by simp, by rw [← marksTo_end]; exact hO, hG⟩
where
  but_of_below' {w w' : World} (Bm : Nat) (h : Below w.heap.size w w') : w.grownBy w' (some Bm) := ⟨h.os, h.tape, h.output, h.size, fun k hk _ => h.block k hk⟩
  but_one' (w : World) (g j : Nat) (v : Value) : w.grownBy (w.setCell ⟨g, j, none⟩ v) (some g) := by
    have h := (Below.refl 0 w).setCell (p := ⟨g, j, none⟩) (Nat.zero_le _) v
    exact ⟨h.os, h.tape, h.output, h.size, fun k _ hn => Below.heap_setCell _ _ _ _ (fun e => hn (by rw [e]))⟩

set_option maxHeartbeats 1000000 in
theorem law_heldStringS (n k : Nat) (v : Value) (w : World) (hn : n ≤ 1000000) (hk1 : 1 ≤ k) (hk : k ≤ 1000000) (hv : Env w (marksL n k) v) :
    Calls Tryz.prog 12 #[v, .int .i64 k] w fun r w' => r = .returned (.int .i64 ((k + n : Nat) : Int)) ∧ Below w.heap.size w w' := by
  obtain ⟨a, cap, rfl, hc0⟩ := hv.open
  have hc : ∀ j, j < n → ∃ g, a = some ⟨g, 0, none⟩ ∧ w.cell? ⟨g, j, none⟩ = some (.string (markT (k + j))) := fun j hj => by
    obtain ⟨g, hg, hcell⟩ := hc0 j (by rw [marksL_length]; exact hj)
    rw [marksL_get] at hcell
    exact ⟨g, hg, hcell⟩
  clear hc0
  rw [marksL_length]
  have hblk : ∀ (g i : Nat), a = some ⟨g, 0, none⟩ → i < n → g < w.heap.size := fun g i hg hi => by
    obtain ⟨g', hg', h0⟩ := hc i hi
    obtain rfl : g = g' := by rw [hg] at hg'; simpa using hg'
    apply Decidable.byContradiction
    intro hge
    have : w.heap[g]? = none := Array.getElem?_eq_none (by omega)
    unfold World.cell? at h0
    simp [this] at h0
  go_enter Tryz.func12, Tryz.ntmps12
  go_wp2_with fail
  go_loopw [1, 5] (fun u i wr => ∃ j : Nat, j ≤ n ∧ i = .int .i64 j ∧ u = .int .i64 ((k : Int) + j) ∧ Below w.heap.size w wr) (fun _ i _ => n - (intOf i).toNat)
  case atStart => exact ⟨0, by omega, rfl, by simp, Below.refl _ _⟩
  case round =>
    obtain ⟨j, hj, rfl, rfl, hB⟩ := hrel
    by_cases hlt : j < n
    · obtain ⟨g, rfl, d⟩ := hc j hlt
      have hg := hblk g j rfl hlt
      obtain ⟨t1, ht1⟩ : ∃ t, t = markT (k + j) := ⟨_, rfl⟩
      have hmt : ∀ (z : Int), z = (k : Int) + j → ∀ w : World, Calls Tryz.prog 23 #[.int .i64 z] w fun r w' => r = .returned (.string t1) ∧ Below w.heap.size w w' := fun z hz w => by subst hz; rw [ht1]; simpa using law_markText (k + j) (by omega) (by omega) w
      rw [← ht1] at d
      have c1 : wr.cell? ⟨g, j, none⟩ = some (.string t1) := by rw [hB.cell hg]; exact d
      have hgr : g < wr.heap.size := Nat.lt_of_lt_of_le hg hB.size
      have hij : (j : Int) < (n : Int) := by omega
      have hd1 : Below wr.heap.size wr wr.drew := (Below.refl _ _).drew
      clear ht1 d
      go_wp2_with fail
      go_region_held3 (fun w' => w'.cell? ⟨g, j, none⟩ = some (.string t1))
        (first | (rw [hc1.cell (by dsimp only; omega)]; exact c1) | exact c1)
        (first | (go_at_call 23; refine (hmt _ rfl _).mono ?_; rintro r w2 ⟨rfl, hb2⟩; have hc1 := below_next hd1 hb2))
      go_wp2_with fail
      go_roundw
      case rel => exact ⟨j + 1, by omega, by go_num, by go_num, below_next hB hc1⟩
      case measure => simp [intOf]; omega
    · obtain rfl : j = n := by omega
      go_wp2_with fail
      go_ret
      exact ⟨by simp, hB⟩
end Go.Proofs.YtkkjpiikilhobaaGreatDoor
