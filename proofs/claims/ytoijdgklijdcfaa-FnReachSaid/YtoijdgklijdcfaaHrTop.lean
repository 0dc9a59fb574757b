/-
  HeapReach: the specification's, whole.
-/
import Derived.Test.YtoijdgklijdcfaaHrReach
namespace Go.Proofs.Ytoijdgklijdcfaa
open Go.RowKit

set_option maxHeartbeats 2000000 in
theorem spec_HeapReach (cs : List Ce) (hn : cs.length ≤ 1048576) (ws : List Wd) (hws : ws.length ≤ 1048576) (v vw : Value) (w : World) (hv : Cells w (· < w.heap.size) cs v) (hvw : Words w (· < w.heap.size) ws vw) :
    Calls Try.prog 7 #[v, vw] w fun r w' => ReachR w w' (reachM cs ws) r := by
  obtain ⟨i1, hi1, hiz1, his1, hib1⟩ := info_parts inInfo
  obtain ⟨a, cap, rfl⟩ := hv.slice
  obtain ⟨wa, wcap, rfl⟩ := hvw.slice
  have hk := fun w' (hv' : Cells w' (· < w'.heap.size) cs (.slice a cs.length cap)) => ho_l7Ok cs hn _ w' hv'
  have hw := fun w' (hv' : Words w' (· < w'.heap.size) ws (.slice wa ws.length wcap)) => spec_l7Words cs.length (by omega) ws hws _ w' hv'
  have nil1 : ∀ w', Below w.heap.size w w' → ReachR w w' [] (.returned (.slice none 0 0)) := fun w' hb => ⟨_, rfl, World.ownsRow_nil _ _ _ _, hb⟩
  cases hh : heapM cs
  · have e1 : reachM cs ws = [] := by rw [reachM, if_neg (by rw [hh]; simp)]
    rw [e1]
    rw [hh] at hk
    go_enter Try.func7, Try.ntmps7
    go_wp2_with (go_at_call 16; refine (hk _ hv).mono ?_; rintro r w2 ⟨rfl, hb2⟩)
    go_ret
    exact nil1 _ hb2
  cases hx : wordsM cs.length ws
  · have e1 : reachM cs ws = [] := by rw [reachM, if_neg (by rw [hx]; simp)]
    rw [e1]
    rw [hh] at hk
    rw [hx] at hw
    go_enter Try.func7, Try.ntmps7
    go_wp2_with (first
      | (go_at_call 16; refine (hk _ hv).mono ?_; rintro r w2 ⟨rfl, hb2⟩)
      | (go_at_call 17; refine (hw _ (hvw.keep hb2 hb2.size)).mono ?_; rintro r w3 ⟨rfl, hb3⟩))
    go_ret
    exact nil1 _ (hc_next hb2 hb3)
  have e1 : reachM cs ws = takenM (inM (copyS cs [] ws)) := by rw [reachM, if_pos ⟨hh, hx⟩]
  rw [e1]
  obtain ⟨h120, hrefs⟩ := heap_refs hh
  have hwr := words_refs hx
  have hml := loop_mv cs hrefs (cs.length + 1) _ 0 0 (Inv.words hrefs ws _ (inv0 cs []) hwr)
  rw [hh] at hk
  rw [hx] at hw
  have hR := fun w' hv' hvw' => spec_l7Reach cs ws (by omega) hws hwr hrefs w' (.slice a cs.length cap) (.slice wa ws.length wcap) hv' hvw'
  have hml' : (inM (copyS cs [] ws)).length ≤ 1000 := by rw [inM_length]; show (loopS cs (cs.length + 1) (wordsS cs (st0 cs []) ws) 0).mv.length ≤ 1000; omega
  clear hml
  obtain ⟨bs, hbs⟩ : ∃ bs, bs = inM (copyS cs [] ws) := ⟨_, rfl⟩
  rw [← hbs] at hml' ⊢
  go_enter Try.func7, Try.ntmps7
  go_upto_region 4 with (first
    | (go_at_call 16; refine (hk _ hv).mono ?_; rintro r w2 ⟨rfl, hb2⟩)
    | (go_at_call 17; refine (hw _ (hvw.keep hb2 hb2.size)).mono ?_; rintro r w3 ⟨rfl, hb3⟩; have hb13 := hc_next hb2 hb3)
    | (go_at_call 18; refine (hR _ (hv.keep hb13 hb13.size) (hvw.keep hb13 hb13.size)).mono ?_; rintro r w4 ⟨v4, rfl, hO4, hb4⟩))
  rw [← hbs] at hO4
  have hb14 := hc_next hb13 hb4
  obtain ⟨ia, icap, rfl, hic⟩ := own_at hO4
  have hin : ∀ j (hj : j < bs.length), ∃ g, ia = some ⟨g, 0, none⟩ ∧ g < w4.heap.size ∧ w4.cell? ⟨g, j, none⟩ = some (.bool bs[j]) := fun j hj => by
    obtain ⟨g, hg, hc⟩ := hic j (by rw [boolsV_length]; exact hj)
    refine ⟨g, hg, World.block_lt_of_cell? w4 _ hc, ?_⟩
    rw [hc]
    simp [boolsV]
  clear hic hO4 hb2 hb3 hb13 hb4 hbs hk hw hR
  have hOw : (w4.alloc (.cells #[] 3)).ownsRow w4.heap.size 3 1 (.slice (some ⟨w4.heap.size, 0, none⟩) 0 0) 0 [] := World.ownsRow_made w4 #[] 0 (Nat.le_refl _) (Nat.zero_le _) rfl
  go_wp2_with fail
  go_loopg [6, 7] bs.length (fun k v i wr => ∃ j : Nat, j + k = bs.length ∧ i = .int .i64 j ∧ wr.ownsRow w4.heap.size 3 1 v (takenTo bs j).length (natsV (takenTo bs j)) ∧ Below w4.heap.size w4 wr)
  case atStart => exact ⟨0, by omega, rfl, hOw, below_new w4 _⟩
  case round =>
    obtain ⟨j, hj, rfl, hO, hB⟩ := hrel
    have hz := hB.size
    have htl := takenTo_le bs j
    by_cases hlt : j < bs.length
    · obtain ⟨mb, rfl, hml, hc⟩ := hin j hlt
      have hc' : wr.cell? ⟨mb, j, none⟩ = some (.bool bs[j]) := by rw [hB.cell (p := ⟨mb, j, none⟩) hml]; exact hc
      have hji : (j : Int) < (bs.length : Int) := by omega
      have hnx := takenTo_next bs j hlt
      cases hb : bs[j]
      · rw [hb] at hc' hnx
        have HN : Hid (takenTo bs (j + 1) = takenTo bs j) := by show _ = _; rw [hnx]; simp
        clear hnx hc hb
        go_wp2_with fail
        go_roundg (bs.length - (j + 1))
        case measure => omega
        case rel => exact ⟨j + 1, by omega, by go_num, by rw [HN.out]; exact hO, hB⟩
      · rw [hb] at hc' hnx
        have HN : Hid (takenTo bs (j + 1) = takenTo bs j ++ [j]) := by show _ = _; rw [hnx]; simp
        clear hnx hc hb
        go_wp2_with (at_builtin; refine wpList_append_own _ rfl _ _ 27 rfl w4.heap.size 3 i1 (.int .i64 0) 1 8 Try.underlying27 hi1 hiz1 his1 hib1 rfl (by decide) _ _ _ rfl (hO.alloc _) ⟨wr.heap.size, 0, none⟩ 1 1 [.int .i64 (j : Int)] rfl rfl (ow_cells_new wr _ _) (fun u hu => by simp at hu; subst hu; rfl) (by unfold maxLen; omega) (by omega) (by simp; omega) ?_; intro v8 w8 hO8 hG8 _)
        go_roundg (bs.length - (j + 1))
        case measure => omega
        case rel => exact ⟨j + 1, by omega, by go_num, by rw [HN.out]; exact nats_snoc rfl hO8, (hB.alloc hz _).grown hG8 (by simp; omega) (fun k hk => (hO.lt k hk).1)⟩
    · obtain rfl : j = bs.length := by omega
      have hji : ¬ (bs.length : Int) < (bs.length : Int) := by omega
      go_wp2_with fail
      go_ret
      exact ⟨_, rfl, ow_base hO hb14.size, hc_next hb14 hB⟩
end Go.Proofs.Ytoijdgklijdcfaa
