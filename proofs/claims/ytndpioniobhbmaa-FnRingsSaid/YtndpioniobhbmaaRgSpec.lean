/-
  Cells that lead back to themselves: the specification's SameRings.
-/
import Derived.Test.YtndpioniobhbmaaRgMath
import Derived.Test.YtndpioniobhbmaaHrReach
import Derived.Test.YtndpioniobhbmaaHrImpl
import Derived.Deep.RegionHeld3
import Derived.Deep.Cut
namespace Go.Proofs.Ytndpioniobhbmaa
open Go.RowKit

set_option maxRecDepth 100000 in
set_option maxHeartbeats 2000000 in
theorem spec_l18Ring (cs : List Ce) (hl : cs.length ≤ 120) (hrefs : ∀ c ∈ cs, refOk cs.length c.a ∧ refOk cs.length c.b) (k : Nat) (hk : k < cs.length) (v : Value) (w : World) (hv : Cells w (· < w.heap.size) cs v) :
    Calls Try.prog 15 #[v, .int .i64 (k : Int)] w fun r w' => r = .returned (.bool (ringQ cs k)) ∧ Below w.heap.size w w' := by
  obtain ⟨a, cap, rfl⟩ := hv.slice
  obtain ⟨b, off, hS, rfl, hr⟩ := hv.at k hk
  obtain ⟨ra, rb⟩ := hrefs _ (List.getElem_mem hk)
  have hwr : ∀ d ∈ [cs[k].a, cs[k].b], refOk cs.length d := by
    intro d hd
    simp only [List.mem_cons, List.not_mem_nil, or_false] at hd
    rcases hd with rfl | rfl
    · exact ra
    · exact rb
  have hml : (inM (copyS cs [] [cs[k].a, cs[k].b])).length = cs.length := by
    rw [inM_length]
    exact loop_mv cs hrefs (cs.length + 1) _ 0 0 (Inv.words hrefs [cs[k].a, cs[k].b] _ (inv0 cs []) hwr)
  have hR := fun w' (hb : Below w.heap.size w w') => spec_l7Reach cs [cs[k].a, cs[k].b] (by omega) (by simp) hwr hrefs (w'.alloc (.cells #[.int .i64 cs[k].a.tag, .int .i64 cs[k].a.num, .int .i64 cs[k].b.tag, .int .i64 cs[k].b.num] 31)).drew _ _ ((hv.keep hb hb.size).keep (rg_new _ _).drew (by show _ ≤ (World.alloc _ _).heap.size; simp)) (rg_two w' cs[k].a cs[k].b 31).drew
  rw [ring_at hk]
  have hkk : (k : Int) < (cs.length : Int) := by omega
  have HK : ∀ w', Below w.heap.size w w' → (w'.cell? ⟨b, off + k * 6 + 2, none⟩ = some (.int .i64 cs[k].a.tag) ∧ w'.cell? ⟨b, off + k * 6 + 3, none⟩ = some (.int .i64 cs[k].a.num) ∧ w'.cell? ⟨b, off + k * 6 + 4, none⟩ = some (.int .i64 cs[k].b.tag) ∧ w'.cell? ⟨b, off + k * 6 + 5, none⟩ = some (.int .i64 cs[k].b.num)) := fun w' h => by
    obtain ⟨_, _, q2, q3, q4, q5⟩ := Ce.six (rw_same (h.block b hS) hr)
    exact ⟨q2, q3, q4, q5⟩
  have hr0 : Below w.heap.size w w := Below.refl _ _
  obtain ⟨q2, q3, q4, q5⟩ := HK _ hr0
  have hR0 := hR _ hr0
  clear hR hwr ra rb hrefs hr hv hS
  generalize copyS cs [] [cs[k].a, cs[k].b] = s at *
  generalize cs[k] = c at *
  obtain ⟨x, hX⟩ : ∃ x, Hid (x = (inM s).getD k false) := ⟨_, rfl⟩
  rw [← hX.out]
  go_enter Try.func15, Try.ntmps15
  go_upto_region 1 with fail
  go_region_held3 (fun w' => w'.cell? ⟨b, off + k * 6 + 2, none⟩ = some (.int .i64 c.a.tag) ∧ w'.cell? ⟨b, off + k * 6 + 3, none⟩ = some (.int .i64 c.a.num) ∧ w'.cell? ⟨b, off + k * 6 + 4, none⟩ = some (.int .i64 c.b.tag) ∧ w'.cell? ⟨b, off + k * 6 + 5, none⟩ = some (.int .i64 c.b.num)) (first | go_keep | exact ⟨q2, q3, q4, q5⟩ | exact HK _ (by assumption)) (first
    | (go_at_call 25; refine hR0.mono ?_; rintro e w9 ⟨v9, rfl, hO9, hb9⟩; have hE9 : Below w.heap.size w w9 := hc_next (rg_new _ _).drew hb9))
  have hkl : k < (boolsV (inM s)).length := by rw [boolsV_length, hml]; exact hk
  obtain ⟨a9, cap9, rfl, hc9⟩ := own_at hO9
  obtain ⟨g, rfl, hc⟩ := hc9 k hkl
  have hki : k < (inM s).length := by omega
  have hc' : w9.cell? ⟨g, k, none⟩ = some (.bool x) := by
    rw [hX.out, hc, List.getD_eq_getElem?_getD, List.getElem?_eq_getElem hki]
    simp [boolsV]
  have hk9 : (k : Int) < ((inM s).length : Int) := by omega
  clear hc hc9 hkl hO9 hR0 q2 q3 q4 q5 HK hml hX
  generalize (inM s).length = n9 at *
  go_wp2_with fail
  go_ret
  exact ⟨rfl, hE9⟩

set_option maxRecDepth 100000 in
set_option maxHeartbeats 2000000 in
theorem spec_SameRings (cs : List Ce) (hn : cs.length ≤ 1048576) (v : Value) (w : World) (hv : Cells w (· < w.heap.size) cs v) :
    Calls Try.prog 7 #[v] w fun r w' => ReachR w w' (ringsM cs) r := by
  obtain ⟨i1, hi1, hiz1, his1, hib1⟩ := info_parts inInfo
  obtain ⟨a, cap, rfl⟩ := hv.slice
  have hk := fun w' (hv' : Cells w' (· < w'.heap.size) cs (.slice a cs.length cap)) => ho_l7Ok cs hn _ w' hv'
  cases hh : heapM cs
  · have e1 : ringsM cs = [] := by rw [ringsM, if_neg (by rw [hh]; simp)]
    rw [e1]
    rw [hh] at hk
    clear hh
    go_enter Try.func7, Try.ntmps7
    go_wp2_with (go_at_call 14; refine (hk _ hv).mono ?_; rintro r w2 ⟨rfl, hb2⟩)
    go_ret
    exact ⟨_, rfl, World.ownsRow_nil _ _ _ _, hb2⟩
  have e1 : ringsM cs = takenM (ringsB cs) := by rw [ringsM, if_pos hh]
  rw [e1]
  obtain ⟨h120, hrefs⟩ := heap_refs hh
  rw [hh] at hk
  have hR := fun k hk w' hv' => spec_l18Ring cs h120 hrefs k hk (.slice a cs.length cap) w' hv'
  have hbl := ringsB_length cs
  have hbg := ringsB_get cs
  clear hrefs hh e1
  generalize ringsB cs = bs at *
  go_enter Try.func7, Try.ntmps7
  go_upto_region 3 with (go_at_call 14; refine (hk _ hv).mono ?_; rintro r w4 ⟨rfl, hb14⟩)
  have hOw : (w4.alloc (.cells #[] 3)).ownsRow w4.heap.size 3 1 (.slice (some ⟨w4.heap.size, 0, none⟩) 0 0) 0 [] := World.ownsRow_made w4 #[] 0 (Nat.le_refl _) (Nat.zero_le _) rfl
  have KC : Hid (∀ w', Below w4.heap.size w4 w' → Cells w' (· < w'.heap.size) cs (.slice a cs.length cap)) := fun w' h => hv.keep (hc_next hb14 h) (hc_next hb14 h).size
  clear hk hv
  go_wp2_with fail
  go_loopg [3, 4] cs.length (fun k v i wr => ∃ j : Nat, j + k = cs.length ∧ i = .int .i64 j ∧ wr.ownsRow w4.heap.size 3 1 v (takenTo bs j).length (natsV (takenTo bs j)) ∧ Below w4.heap.size w4 wr)
  case atStart => exact ⟨0, by omega, rfl, hOw, rg_new w4 _⟩
  case round =>
    obtain ⟨j, hj, rfl, hO, hB⟩ := hrel
    have hz := hB.size
    have htl := takenTo_le bs j
    by_cases hlt : j < cs.length
    · have hji : (j : Int) < (cs.length : Int) := by omega
      have hltb : j < bs.length := by omega
      have hnx := takenTo_next bs j hltb
      rw [hbg j hltb] at hnx
      have hRj := hR j hlt wr (KC.out wr hB)
      generalize hb : ringQ cs j = x at *
      clear hR hbg hOw hb
      cases x
      · have HN : Hid (takenTo bs (j + 1) = takenTo bs j) := by show _ = _; rw [hnx]; simp
        clear hnx
        go_wp2_with (go_at_call 15; refine hRj.mono ?_; rintro r w5 ⟨rfl, hb5⟩)
        go_roundg (cs.length - (j + 1))
        case measure => omega
        case rel => exact ⟨j + 1, by omega, by go_num, by rw [HN.out]; exact ow_keep hO hb5, hB.trans (hb5.mono hz)⟩
      · have HN : Hid (takenTo bs (j + 1) = takenTo bs j ++ [j]) := by show _ = _; rw [hnx]; simp
        clear hnx
        go_wp2_with (first
          | (go_at_call 15; refine hRj.mono ?_; rintro r w5 ⟨rfl, hb5⟩; have hO5 := ow_keep hO hb5; have hB5 := hB.trans (hb5.mono hz); have hz5 := hB5.size)
          | (at_builtin; refine wpList_append_own _ rfl _ _ 25 rfl w4.heap.size 3 i1 (.int .i64 0) 1 8 Try.underlying25 hi1 hiz1 his1 hib1 rfl (by decide) _ _ _ rfl (hO5.alloc _) ⟨w5.heap.size, 0, none⟩ 1 1 [.int .i64 (j : Int)] rfl rfl (ow_cells_new w5 _ _) (fun u hu => by simp at hu; subst hu; rfl) (by unfold maxLen; omega) (by omega) (by simp; omega) ?_; intro v8 w8 hO8 hG8 _))
        go_roundg (cs.length - (j + 1))
        case measure => omega
        case rel => exact ⟨j + 1, by omega, by go_num, by rw [HN.out]; exact nats_snoc rfl hO8, (hB5.alloc hz5 _).grown hG8 (by simp; omega) (fun k hk => (hO5.lt k hk).1)⟩
    · obtain rfl : j = cs.length := by omega
      have hji : ¬ (cs.length : Int) < (cs.length : Int) := by omega
      have HM : Hid (takenM bs = takenTo bs cs.length) := by show _ = _; rw [takenM, hbl]
      go_wp2_with fail
      go_ret
      exact ⟨_, rfl, by rw [HM.out]; exact ow_base hO hb14.size, hc_next hb14 hB⟩
end Go.Proofs.Ytndpioniobhbmaa
