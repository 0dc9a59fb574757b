/-
  HeapReach: the program's.
-/
import Derived.Test.YtndpioniobhbmaaHrMath
import Derived.Test.YtndpioniobhbmaaWlOn
import Derived.Test.YtndpioniobhbmaaWlWords
namespace Go.Proofs.Ytndpioniobhbmaa
open Go.RowKit

theorem inInfo : (Try.prog.info? 3).map (fun i => (i.zero, i.size, i.bytes)) = some (some (.int .i64 0), 1, 8) := by kernel_rfl
/-- How a function ends that answers places. -/
def ReachR (w w' : World) (l : List Nat) (r : Ending) : Prop := ∃ v, r = .returned v ∧ w'.ownsRow w.heap.size 3 1 v l.length (natsV l) ∧ Below w.heap.size w w'
/-- What HeapReach answers. -/
def reachM (cs : List Ce) (ws : List Wd) : List Nat := if heapM cs = true ∧ wordsM cs.length ws = true then takenM (inM (copyS cs [] ws)) else []
theorem nats_snoc {w : World} {B k n : Nat} {l : List Nat} {v : Value} (hn : l.length + 1 = n) (h : w.ownsRow B 3 1 v n (natsV l ++ [.int .i64 (k : Int)])) : w.ownsRow B 3 1 v (l ++ [k]).length (natsV (l ++ [k])) := by
  rw [List.length_append, show l.length + [k].length = n from hn]
  simpa [natsV] using h

set_option maxHeartbeats 1000000 in
theorem impl_taken (b : Nat) (fr : List Ce) (s : St) (hs : s.mv.length ≤ 1000) (w : World) (B g : Nat) (vf vt vm : Value) (h : WLi b w B g fr s vf vt vm) :
    Calls Try.prog 20 #[.pointer (some ⟨g, 0, none⟩)] w fun r w' => ReachR w w' (takenM (inM s)) r := by
  obtain ⟨i1, hi1, hiz1, his1, hib1⟩ := info_parts inInfo
  obtain ⟨c0, c1, c2, c3, cf⟩ := wl_cells h
  have hown := h.ownM
  obtain ⟨ma, mcap, rfl⟩ : ∃ ma mcap, vm = .slice ma s.mv.length mcap := by
    rcases hown.2 with ⟨rfl, e⟩ | ⟨x, c, _, rfl, _⟩
    · exact ⟨none, 0, by rw [e]⟩
    · exact ⟨_, _, rfl⟩
  have hm : ∀ j (hj : j < s.mv.length), ∃ mb, ma = some ⟨mb, 0, none⟩ ∧ mb < w.heap.size ∧ w.cell? ⟨mb, j, none⟩ = some (.int .i64 s.mv[j]) := fun j hj => by
    obtain ⟨mb, cap, he, hc, _, _, hl, _⟩ := h.rowM hj
    simp at he
    exact ⟨mb, he.1, hl, hc⟩
  clear h hown
  go_enter Try.func20, Try.ntmps20
  go_wp2_with fail
  clear c0 c1 c2 c3 cf
  go_loopg [3, 11] s.mv.length (fun k v i wr => ∃ j : Nat, j + k = s.mv.length ∧ i = .int .i64 j ∧ wr.ownsRow w.heap.size 3 1 v (takenTo (inM s) j).length (natsV (takenTo (inM s) j)) ∧ Below w.heap.size w wr)
  case atStart => exact ⟨0, by omega, rfl, World.ownsRow_nil _ _ _ _, Below.refl _ _⟩
  case round =>
    obtain ⟨j, hj, rfl, hO, hB⟩ := hrel
    have hz := hB.size
    have htl := takenTo_le (inM s) j
    by_cases hlt : j < s.mv.length
    · obtain ⟨mb, rfl, hml, hc⟩ := hm j hlt
      have hc' : wr.cell? ⟨mb, j, none⟩ = some (.int .i64 s.mv[j]) := by rw [hB.cell (p := ⟨mb, j, none⟩) hml]; exact hc
      have hji : (j : Int) < (s.mv.length : Int) := by omega
      have hnx := takenTo_next (inM s) j (by rw [inM_length]; exact hlt)
      rw [inM_get s j hlt] at hnx
      by_cases hp : 0 ≤ s.mv[j]
      · have HN : Hid (takenTo (inM s) (j + 1) = takenTo (inM s) j ++ [j]) := by show _ = _; rw [hnx, if_pos (decide_eq_true hp)]
        clear hnx
        generalize s.mv[j] = x at *
        go_wp2_with (at_builtin; refine wpList_append_own _ rfl _ _ 25 rfl w.heap.size 3 i1 (.int .i64 0) 1 8 Try.underlying25 hi1 hiz1 his1 hib1 rfl (by decide) _ _ _ rfl (hO.alloc _) ⟨wr.heap.size, 0, none⟩ 1 1 [.int .i64 (j : Int)] rfl rfl (ow_cells_new wr _ _) (fun u hu => by simp at hu; subst hu; rfl) (by unfold maxLen; omega) (by omega) (by simp; omega) ?_; intro v8 w8 hO8 hG8 _)
        go_roundg (s.mv.length - (j + 1))
        case measure => omega
        case rel => exact ⟨j + 1, by omega, by go_num, by rw [HN.out]; exact nats_snoc rfl hO8, (hB.alloc hz _).grown hG8 (by simp; omega) (fun k hk => (hO.lt k hk).1)⟩
      · have HN : Hid (takenTo (inM s) (j + 1) = takenTo (inM s) j) := by show _ = _; rw [hnx, if_neg (by rw [decide_eq_false hp]; simp), List.append_nil]
        clear hnx
        generalize s.mv[j] = x at *
        go_wp2_with fail
        go_roundg (s.mv.length - (j + 1))
        case measure => omega
        case rel => exact ⟨j + 1, by omega, by go_num, by rw [HN.out]; exact hO, hB⟩
    · obtain rfl : j = s.mv.length := by omega
      have hji : ¬ (s.mv.length : Int) < (s.mv.length : Int) := by omega
      go_wp2_with fail
      go_ret
      exact ⟨_, rfl, by rw [takenM, inM_length]; exact hO, hB⟩

theorem loop_mv (cs : List Ce) (hrefs : ∀ c ∈ cs, refOk cs.length c.a ∧ refOk cs.length c.b) : ∀ (n : Nat) (s : St) (b i : Nat), Inv cs b i s → (loopS cs n s i).mv.length = cs.length
  | 0, s, _, _, h => h.len
  | n + 1, s, b, i, h => by
    rw [loopS]
    split
    · rename_i hi; exact loop_mv cs hrefs n _ b _ (h.step hrefs hi)
    · exact h.len

set_option maxHeartbeats 1000000 in
theorem impl_HeapReach (cs : List Ce) (hn : cs.length ≤ 1048576) (ws : List Wd) (hws : ws.length ≤ 1048576) (v vw : Value) (w : World) (hv : Cells w (· < w.heap.size) cs v) (hvw : Words w (· < w.heap.size) ws vw) :
    Calls Try.prog 9 #[v, vw] w fun r w' => ReachR w w' (reachM cs ws) r := by
  obtain ⟨a, cap, rfl⟩ := hv.slice
  obtain ⟨wa, wcap, rfl⟩ := hvw.slice
  have hk := fun w' (hv' : Cells w' (· < w'.heap.size) cs (.slice a cs.length cap)) => impl_HeapOk cs hn _ w' hv'
  have hw := fun w' (hv' : Words w' (· < w'.heap.size) ws (.slice wa ws.length wcap)) => impl_wordsOk cs.length (by omega) a cap ws hws _ w' hv'
  have nil1 : ∀ w', Below w.heap.size w w' → ReachR w w' [] (.returned (.slice none 0 0)) := fun w' hb => ⟨_, rfl, World.ownsRow_nil _ _ _ _, hb⟩
  cases hh : heapM cs
  · have e1 : reachM cs ws = [] := by rw [reachM, if_neg (by rw [hh]; simp)]
    rw [e1]
    rw [hh] at hk
    go_enter Try.func9, Try.ntmps9
    go_wp2_with (go_at_call 8; refine (hk _ hv).mono ?_; rintro r w2 ⟨rfl, hb2⟩)
    go_ret
    exact nil1 _ hb2
  cases hx : wordsM cs.length ws
  · have e1 : reachM cs ws = [] := by rw [reachM, if_neg (by rw [hx]; simp)]
    rw [e1]
    rw [hh] at hk
    rw [hx] at hw
    go_enter Try.func9, Try.ntmps9
    go_wp2_with (first
      | (go_at_call 8; refine (hk _ hv).mono ?_; rintro r w2 ⟨rfl, hb2⟩)
      | (go_at_call 17; refine (hw _ (hvw.keep hb2 hb2.size)).mono ?_; rintro r w3 ⟨rfl, hb3⟩))
    go_ret
    exact nil1 _ (hc_next hb2 hb3)
  have e1 : reachM cs ws = takenM (inM (copyS cs [] ws)) := by rw [reachM, if_pos ⟨hh, hx⟩]
  rw [e1]
  obtain ⟨h120, hrefs⟩ := heap_refs hh
  have hwr := words_refs hx
  have hml := loop_mv cs hrefs (cs.length + 1) _ 0 0 (Inv.words hrefs ws _ (inv0 cs []) hwr)
  rw [hh] at hk
  rw [hx] at hw
  go_enter Try.func9, Try.ntmps9
  go_wp2_with (first
    | (go_at_call 8; refine (hk _ hv).mono ?_; rintro r w2 ⟨rfl, hb2⟩)
    | (go_at_call 17; refine (hw _ (hvw.keep hb2 hb2.size)).mono ?_; rintro r w3 ⟨rfl, hb3⟩; have hb13 := hc_next hb2 hb3)
    | (go_at_call 18; refine (impl_workOn cs [] (by omega) (by simp) _ _ _ (hv.keep hb13 hb13.size) (RowOf.nil _ _)).mono ?_; rintro r w4 ⟨g, vt, vm, rfl, hW4, hb4⟩)
    | (go_at_call 19; refine (impl_copyWords 0 cs (st0 cs []) ws hws hwr (by omega) (inv0 cs []) hrefs _ w3.heap.size g _ vt vm _ hW4 (((hvw.keep hb13 hb13.size).keep hb4 (Nat.le_refl _)).same fun b hb => ⟨rfl, hW4.low hb⟩)).mono ?_; rintro r w5 ⟨v5, vt5, rfl, _, _, hW5, hM5⟩; have hb5 : Below w.heap.size w w5 := (hc_next hb13 hb4).trans ((hW4.below hM5).mono hb13.size))
    | (go_at_call 20; refine (impl_taken 0 cs _ (by omega) _ w3.heap.size g _ vt5 vm hW5).mono ?_; rintro r w6 ⟨v6, rfl, hO6, hb6⟩))
  go_ret
  exact ⟨_, rfl, ow_base hO6 hb5.size, hc_next hb5 hb6⟩
end Go.Proofs.Ytndpioniobhbmaa
