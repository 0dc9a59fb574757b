/-
  The law's own toOpS: a row of the call's own.
  The law's own markOpS, heldOpS.
  The law's own eqIntS, markIntS, heldIntS.
-/
import Derived.Test.YtlkbgmgnjkkfgaaDoorLvAll35
import Derived.Test.YtlkbgmgnjkkfgaaDoorLvAll3
import Derived.Test.YtlkbgmgnjkkfgaaDoorLvAll4
import Derived.Test.YtlkbgmgnjkkfgaaDoorRows
import Derived.WalkKit
import Derived.WalkSpells
import Derived.WalkLawsBesides
import Derived.RowKit3
import Derived.Test.YtlkbgmgnjkkfgaaDoorHrMath
import Derived.Deep.QuietTactic
import Derived.BigQuiet
import Derived.Deep.LoopGhost
namespace Go.Proofs.YtlkbgmgnjkkfgaaDoor
open Go.RowKit

theorem made_OpS (w : World) (m B : Nat) (hB : B ≤ w.heap.size) (hm : m ≤ 1048576) : (w.alloc (.cells (madeCells #[.int .i64 0, .int .i64 0] (m * 2)) 37)).ownsRow B 37 2 (.slice (some ⟨w.heap.size, 0, none⟩) m m) m ((List.replicate m (⟨0, 0⟩ : Wd)).flatMap Wd.cells) := by
  have hz : (madeCells #[.int .i64 0, .int .i64 0] (m * 2)).toList = (List.replicate m (⟨0, 0⟩ : Wd)).flatMap Wd.cells := by
    have h1 : (madeCells #[.int .i64 0, .int .i64 0] (m * 2)).toList = List.replicate (m * 2) (.int .i64 0) := by
      rw [List.eq_replicate_iff]
      refine ⟨by simp [size_madeCells], fun x hx => ?_⟩
      simp only [madeCells, Array.toList_map, List.mem_map] at hx
      obtain ⟨i, _, rfl⟩ := hx
      have hi : i % 2 < 2 := Nat.mod_lt _ (by omega)
      show (#[.int .i64 0, .int .i64 0] : Array Value)[i % 2]! = _
      revert hi
      generalize i % 2 = k
      intro hi
      match k, hi with
      | 0, _ | 1, _ => rfl
    rw [h1]
    clear h1 hm
    induction m with
    | zero => rfl
    | succ m ih => rw [List.replicate_succ, List.flatMap_cons, ← ih, Nat.succ_mul, Nat.add_comm, ← List.replicate_append_replicate]; rfl
  refine ⟨by rw [← hz]; simp [size_madeCells], Or.inr ⟨w.heap.size, m, madeCells #[.int .i64 0, .int .i64 0] (m * 2), rfl, hB, heap_alloc_new _ _, Nat.le_refl _, by unfold maxLen; omega, size_madeCells _ _, ?_⟩⟩
  rw [List.take_of_length_le (by simp [size_madeCells]), hz]
theorem front_OpS (cs : List Wd) (k : Nat) (h : k < cs.length) : (cs.take k ++ List.replicate (cs.length - k) (⟨0, 0⟩ : Wd)).set k cs[k] = cs.take (k + 1) ++ List.replicate (cs.length - (k + 1)) (⟨0, 0⟩ : Wd) := by
  obtain ⟨m, hm⟩ : ∃ m, cs.length - k = m + 1 := ⟨cs.length - k - 1, by omega⟩
  have hl : (cs.take k).length = k := by simp; omega
  rw [List.set_append_right _ _ (by omega), hl, Nat.sub_self, hm, List.replicate_succ, List.set_cons_zero, List.take_succ_eq_append_getElem h, show cs.length - (k + 1) = m by omega, List.append_assoc]
  rfl

set_option maxHeartbeats 1000000 in
theorem own_toOpS (cs : List Wd) (hlen : cs.length ≤ 1048576) (w : World) (v : Value) (hv : RowOf 2 Wd.cells w (· < w.heap.size) cs v) :
    Calls Tryd.prog 6 #[v] w fun r w' => ∃ v', r = .returned v' ∧ w'.ownsRow w.heap.size 37 2 v' cs.length (cs.flatMap Wd.cells) ∧ Below w.heap.size w w' := by
  obtain ⟨a, cap, rfl⟩ := hv.slice
  have hmk := make_ops cs.length hlen
  go_enter Tryd.func6, Tryd.ntmps6
  go_wp2_with fail
  go_loopw [4] (fun i wr => ∃ (k : Nat), k ≤ cs.length ∧ i = .int .i64 k ∧ wr.ownsRow w.heap.size 37 2 (.slice (some ⟨w.heap.size, 0, none⟩) cs.length cs.length) cs.length ((cs.take k ++ List.replicate (cs.length - k) (⟨0, 0⟩ : Wd)).flatMap Wd.cells) ∧ Below w.heap.size w wr) (fun i _ => cs.length - (intOf i).toNat)
  case atStart => exact ⟨0, by omega, rfl, by simpa using made_OpS w cs.length _ (Nat.le_refl _) hlen, (Below.refl _ _).alloc (Nat.le_refl _) _⟩
  case round =>
    obtain ⟨k, hk, rfl, hO, hb⟩ := hrel
    have hgl := (hO.lt w.heap.size rfl).2
    by_cases hlt : k < cs.length
    · obtain ⟨b, off, hS, rfl, hr⟩ := hv.at k hlt
      obtain ⟨c0, c1⟩ := Wd.two (rw_same (hb.block b hS) hr)
      clear hr
      have hlk : (cs.take k ++ List.replicate (cs.length - k) (⟨0, 0⟩ : Wd)).length = cs.length := by simp; omega
      have hfl := ow_flat_len (f := Wd.cells) (n := 2) (fun _ => rfl) (cs.take k ++ List.replicate (cs.length - k) (⟨0, 0⟩ : Wd))
      have HT : ∀ w2, Below wr.heap.size wr w2 → w2.there w.heap.size (k * 2) 2 := fun w2 hb2 => by
        refine rw_there_same (hb2.block _ hgl) fun j hj => ?_
        have := ow_cell hO (k * 2 + j) (by rw [hfl, hlk]; omega)
        exact ⟨by rw [this.1]; rfl, this.2⟩
      go_wp2_with (first | (go_at_call 15; refine (law_toOp cs[k].tag cs[k].num _).mono ?_; rintro e w2 ⟨rfl, hb2⟩) | (refine wpList_store_mid rfl 37 _ _ rfl w.heap.size (k * 2) #[.int .i64 cs[k].tag, .int .i64 cs[k].num] ?hx ?hy ?ht ?hi ?h1 ?_))
      case hx => rfl
      case hy => rfl
      case ht => exact HT w2 hb2
      case hi => exact opSize
      case h1 => simp [Value.oneCell']
      have hO2 := ow_setCells cs[k].cells (k * 2) _ _ (ow_keep hO hb2)
      rw [flat_set (f := Wd.cells) (n := 2) (fun _ => rfl) cs[k] _ k (by rw [hlk]; exact hlt), front_OpS cs k hlt] at hO2
      go_roundw
      case rel => exact ⟨k + 1, by omega, by go_num, hO2, rw_below_setCells (Nat.le_refl _) _ _ _ (hb.trans (hb2.mono hb.size))⟩
      case measure => simp [intOf]; omega
    · obtain rfl : k = cs.length := by omega
      go_wp2_with fail
      go_ret
      exact ⟨_, rfl, by simpa using hO, hb⟩
end Go.Proofs.YtlkbgmgnjkkfgaaDoor

namespace Go.Proofs.YtlkbgmgnjkkfgaaDoor
open Go.RowKit

set_option maxHeartbeats 1000000 in
theorem law_markOpS (n : Nat) (xs : List Value) (v : Value) (w : World) (B k : Nat) (hn : n ≤ 1048576) (hk : k ≤ 1000000) (h : w.ownsRow B 37 2 v n xs) :
    Calls Tryd.prog 10 #[v, .int .i64 k] w fun r w' => MarkedI 37 2 w w' B n k v r := by
  have hx := h.1
  rcases h.2 with ⟨rfl, rfl⟩ | ⟨g, cap, cur, rfl, hg, hh, _⟩
  · have hx0 : xs = [] := List.length_eq_zero_iff.1 (by simpa using hx)
    subst hx0
    go_enter Tryd.func10, Tryd.ntmps10
    go_wp2_with fail
    go_loopw [1, 5] (fun u i wr => i = .int .i64 0 ∧ u = .int .i64 k ∧ wr = w) (fun _ _ _ => 0)
    case atStart => exact ⟨rfl, rfl, rfl⟩
    case round =>
      obtain ⟨rfl, rfl, rfl⟩ := hrel
      go_wp2_with fail
      go_ret
      exact ⟨by simp, by simpa [marksI] using h, World.grownBy.refl _ _⟩
  · go_enter Tryd.func10, Tryd.ntmps10
    go_wp2_with fail
    go_loopw [1, 5] (fun u i wr => ∃ j : Nat, j ≤ n ∧ i = .int .i64 j ∧ u = .int .i64 ((k : Int) + j * 2) ∧ wr.ownsRow B 37 2 (.slice (some ⟨g, 0, none⟩) n cap) n (marksIn xs k (j * 2)) ∧ w.grownBy wr (some g)) (fun _ i _ => n - (intOf i).toNat)
    case atStart => exact ⟨0, by omega, rfl, by simp, by rw [Nat.zero_mul, marksIn_zero]; exact h, World.grownBy.refl _ _⟩
    case round =>
      obtain ⟨j, hj, rfl, rfl, hO, hG⟩ := hrel
      by_cases hlt : j < n
      · have H1 : Hid (((marksIn xs k (j * 2)).set (j * 2) (.int .i64 ((k : Int) + j * 2))).set (j * 2 + 1) (.int .i64 ((k : Int) + j * 2 + 1)) = marksIn xs k ((j + 1) * 2)) := by
          show _ = _
          rw [show (k : Int) + j * 2 = ((k + j * 2 : Nat) : Int) by omega, marksIn_next xs k _ (by omega), show ((k + j * 2 : Nat) : Int) + 1 = ((k + (j * 2 + 1) : Nat) : Int) by omega, marksIn_next xs k _ (by omega), Nat.succ_mul]
        have hij : (j : Int) < (n : Int) := by omega
        have hl := marksIn_length xs k (j * 2) (by omega)
        obtain ⟨c1, f1⟩ := ow_cell hO (j * 2) (by omega)
        obtain ⟨c2, f2⟩ := ow_cell hO (j * 2 + 1) (by omega)
        generalize (marksIn xs k (j * 2))[j * 2] = u1 at c1
        generalize (marksIn xs k (j * 2))[j * 2 + 1] = u2 at c2
        have hO' := fun a b => ow_set (ow_set hO (j * 2) a) (j * 2 + 1) b
        have hG' := fun a b => ow_grown_trans hG (ow_grown_trans (ow_but_set wr g (j * 2) a) (ow_but_set _ g (j * 2 + 1) b))
        clear hl
        go_wp2_with fail
        go_roundw
        case rel => exact ⟨j + 1, by omega, by go_num, by go_num, by rw [← H1.out]; exact hO' _ _, hG' _ _⟩
        case measure => simp [intOf]; omega
      · obtain rfl : j = n := by omega
        go_wp2_with fail
        go_ret
        exact ⟨by congr 1, by rw [← hx, ← marksIn_end, hx]; exact hO, hG⟩

end Go.Proofs.YtlkbgmgnjkkfgaaDoor

namespace Go.Proofs.YtlkbgmgnjkkfgaaDoor
open Go.RowKit

/-- Numbers lie in w as v, in a block of the law's own from lo to hi. -/
def OwnI (w : World) (lo hi : Nat) (l : List Nat) (v : Value) : Prop := w.ownsRow lo 3 1 v l.length (natsV l) ∧ ∀ k, v.ownBlock = some k → k < hi
theorem OwnI.keep {w w' : World} {lo hi : Nat} {l : List Nat} {v : Value} (h : OwnI w lo hi l v) (hb : Below w.heap.size w w') : OwnI w' lo hi l v := ⟨ow_keep h.1 hb, h.2⟩
theorem OwnI.but {w w' : World} {lo hi : Nat} {l : List Nat} {v u : Value} (h : OwnI w lo hi l v) (hg : w.grownBy w' u.ownBlock) (hu : ∀ k, u.ownBlock = some k → v.ownBlock ≠ some k) : OwnI w' lo hi l v := by
  refine ⟨h.1.kept hg ?_, h.2⟩
  cases hv : v.ownBlock with
  | none => exact Or.inl rfl
  | some k => exact Or.inr fun e => hu k e.symm hv
theorem own_at {w : World} {lo n : Nat} {e : TypeId} {v : Value} {xs : List Value} (h : w.ownsRow lo e 1 v n xs) : ∃ a cap, v = .slice a n cap ∧ ∀ j (hj : j < xs.length), ∃ g, a = some ⟨g, 0, none⟩ ∧ w.cell? ⟨g, j, none⟩ = some xs[j] := by
  have hx := h.1
  rcases h.2 with ⟨rfl, rfl⟩ | ⟨g, cap, cur, rfl, hg, hh, _⟩
  · exact ⟨none, 0, rfl, fun j hj => by omega⟩
  · refine ⟨_, cap, rfl, fun j hj => ⟨g, rfl, ?_⟩⟩
    exact (ow_cell h j hj).1

set_option maxHeartbeats 1000000 in
theorem law_eqIntS (l : List Nat) (hl : l.length ≤ 1000000) (v1 v2 : Value) (w : World) (lo1 hi1 lo2 hi2 : Nat) (h1 : OwnI w lo1 hi1 l v1) (h2 : OwnI w lo2 hi2 l v2) :
    Calls Tryd.prog 8 #[v1, v2] w fun r w' => r = .returned (.bool true) ∧ Below w.heap.size w w' := by
  obtain ⟨a1, cap1, rfl, hc1⟩ := own_at h1.1
  obtain ⟨a2, cap2, rfl, hc2⟩ := own_at h2.1
  have hn := natsV_length l
  go_enter Tryd.func8, Tryd.ntmps8
  go_wp2_with fail
  go_loopg [5] l.length (fun g i wr => ∃ k : Nat, k + g = l.length ∧ i = .int .i64 k ∧ ∃ n, wr = w.drewN n)
  case atStart => exact ⟨0, by omega, rfl, 0, rfl⟩
  case round =>
    obtain ⟨k, hk, rfl, n, rfl⟩ := hrel
    by_cases hlt : k < l.length
    · obtain ⟨g1, rfl, d1⟩ := hc1 k (by omega)
      obtain ⟨g2, rfl, d2⟩ := hc2 k (by omega)
      have hi : (k : Int) < (l.length : Int) := by omega
      have e0 : (natsV l)[k]'(by omega) = .int .i64 (l[k] : Int) := by simp [natsV]
      rw [e0] at d1 d2
      clear e0
      generalize (l[k] : Int) = m at d1 d2
      have e1 : (w.drewN n).cell? ⟨g1, k, none⟩ = some (.int .i64 m) := d1
      have e2 : (w.drewN n).cell? ⟨g2, k, none⟩ = some (.int .i64 m) := d2
      go_wp2_with fail
      go_quiet (fail)
      go_wp2_with fail
      go_roundg (l.length - (k + 1))
      case measure => omega
      case rel => exact ⟨k + 1, by omega, by go_num, n + _, rfl⟩
    · obtain rfl : k = l.length := by omega
      have hi : ¬ (l.length : Int) < (l.length : Int) := by omega
      go_wp2_with fail
      go_ret
      exact ⟨rfl, ⟨rfl, rfl, rfl, Nat.le_refl _, fun _ _ => rfl⟩⟩

set_option maxHeartbeats 2000000 in
theorem law_markIntS (n : Nat) (xs : List Value) (v : Value) (w : World) (B k : Nat) (hn : n ≤ 1100000) (hk : k ≤ 10000000) (h : w.ownsRow B 3 1 v n xs) :
    Calls Tryd.prog 11 #[v, .int .i64 k] w fun r w' => r = .returned (.int .i64 ((k + n : Nat) : Int)) ∧ w'.ownsRow B 3 1 v n (marksI n k) ∧ w.grownBy w' v.ownBlock := by
  have hx := h.1
  rw [Nat.mul_one] at hx
  rcases h.2 with ⟨rfl, rfl⟩ | ⟨g, cap, cur, rfl, hg, hh, _⟩
  · have hx0 : xs = [] := List.length_eq_zero_iff.1 (by simpa using hx)
    subst hx0
    go_enter Tryd.func11, Tryd.ntmps11
    go_wp2_with fail
    go_loopw [1, 5] (fun u i wr => i = .int .i64 0 ∧ u = .int .i64 k ∧ wr = w) (fun _ _ _ => 0)
    case atStart => exact ⟨rfl, rfl, rfl⟩
    case round =>
      obtain ⟨rfl, rfl, rfl⟩ := hrel
      go_wp2_with fail
      go_ret
      exact ⟨by simp, by simpa [marksI] using h, World.grownBy.refl _ _⟩
  · go_enter Tryd.func11, Tryd.ntmps11
    go_wp2_with fail
    go_loopw [1, 5] (fun u i wr => ∃ j : Nat, j ≤ n ∧ i = .int .i64 j ∧ u = .int .i64 ((k : Int) + j) ∧ wr.ownsRow B 3 1 (.slice (some ⟨g, 0, none⟩) n cap) n (marksIn xs k j) ∧ w.grownBy wr (some g)) (fun _ i _ => n - (intOf i).toNat)
    case atStart => exact ⟨0, by omega, rfl, by simp, by rw [marksIn_zero]; exact h, World.grownBy.refl _ _⟩
    case round =>
      obtain ⟨j, hj, rfl, rfl, hO, hG⟩ := hrel
      by_cases hlt : j < n
      · have H1 : Hid ((marksIn xs k j).set j (.int .i64 ((k : Int) + j)) = marksIn xs k (j + 1)) := by
          show _ = _
          rw [show (k : Int) + j = ((k + j : Nat) : Int) by omega, marksIn_next xs k _ (by omega)]
        have hij : (j : Int) < (n : Int) := by omega
        have hl := marksIn_length xs k j (by omega)
        obtain ⟨c0, f0⟩ := ow_cell hO j (by omega)
        generalize (marksIn xs k j)[j] = u100 at c0
        have hO' := fun a0 => ow_set hO j a0
        have hG' := fun a0 => ow_grown_trans hG (ow_but_set wr g j a0)
        clear hl
        go_wp2_with fail
        go_roundw
        case rel => exact ⟨j + 1, by omega, by go_num, by go_num, by rw [← H1.out]; exact hO' _, hG' _⟩
        case measure => simp [intOf]; omega
      · obtain rfl : j = n := by omega
        go_wp2_with fail
        go_ret
        exact ⟨by congr 1, by rw [← hx, ← marksIn_end, hx]; exact hO, hG⟩

set_option maxHeartbeats 2000000 in
theorem law_heldIntS (n k : Nat) (v : Value) (w : World) (B : Nat) (hn : n ≤ 1100000) (hk : k ≤ 10000000) (h : w.ownsRow B 3 1 v n (marksI n k)) :
    Calls Tryd.prog 12 #[v, .int .i64 k] w fun r w' => r = .returned (.int .i64 ((k + n : Nat) : Int)) ∧ w' = w := by
  obtain ⟨a, cap, rfl, hc0⟩ := own_at h
  have hc : ∀ j, j < n → ∃ g, a = some ⟨g, 0, none⟩ ∧ w.cell? ⟨g, j, none⟩ = some (.int .i64 ((k : Int) + j)) := fun j hj => by
    obtain ⟨g, hg, he⟩ := hc0 j (by rw [marksI_length]; exact hj)
    refine ⟨g, hg, ?_⟩
    rw [he]
    simp [marksI]
  clear h hc0
  go_enter Tryd.func12, Tryd.ntmps12
  go_wp2_with fail
  go_loopw [1, 5] (fun u i wr => ∃ j : Nat, j ≤ n ∧ i = .int .i64 j ∧ u = .int .i64 ((k : Int) + j) ∧ wr = w) (fun _ i _ => n - (intOf i).toNat)
  case atStart => exact ⟨0, by omega, rfl, by simp, rfl⟩
  case round =>
    obtain ⟨j, hj, rfl, rfl, rfl⟩ := hrel
    by_cases hlt : j < n
    · obtain ⟨g, rfl, d0⟩ := hc j hlt
      have hij : (j : Int) < (n : Int) := by omega
      go_wp2_with fail
      go_roundw
      case rel => exact ⟨j + 1, by omega, by go_num, by go_num, trivial⟩
      case measure => simp [intOf]; omega
    · obtain rfl : j = n := by omega
      go_wp2_with fail
      go_ret
      exact ⟨by congr 1, rfl⟩
end Go.Proofs.YtlkbgmgnjkkfgaaDoor

