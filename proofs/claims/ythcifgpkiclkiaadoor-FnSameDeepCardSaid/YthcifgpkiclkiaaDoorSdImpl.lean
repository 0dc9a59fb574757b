/-
  How deep words lead: the program's SameDeep, whole.
-/
import Derived.Test.YthcifgpkiclkiaaDoorSdMath
import Derived.Test.YthcifgpkiclkiaaDoorHoImplB
import Derived.Test.YthcifgpkiclkiaaDoorBtEq
import Derived.Deep.RegionHeld3
import Derived.Deep.Cut
namespace Go.Proofs.YthcifgpkiclkiaaDoor
open Go.RowKit

theorem btWd : (Tryd.prog.info? 25).map (fun i => (i.zero, i.size, i.bytes)) = some (some (.agg #[.int .i64 0, .int .i64 0]), 2, 16) := by kernel_rfl
/-- A cell's two words. -/
def SdS (w : World) (b o : Nat) (c : Ce) : Prop := w.cell? ⟨b, o + 2, none⟩ = some (.int .i64 c.a.tag) ∧ w.cell? ⟨b, o + 3, none⟩ = some (.int .i64 c.a.num) ∧ w.cell? ⟨b, o + 4, none⟩ = some (.int .i64 c.b.tag) ∧ w.cell? ⟨b, o + 5, none⟩ = some (.int .i64 c.b.num)
abbrev sdBox (c : Ce) : Obj := .cells #[.int .i64 c.a.tag, .int .i64 c.a.num, .int .i64 c.b.tag, .int .i64 c.b.num] 25
theorem sd_news (w : World) (c : Ce) : ∀ j u, [.int .i64 c.a.tag, .int .i64 c.a.num, .int .i64 c.b.tag, Value.int .i64 c.b.num][j]? = some u → (w.alloc (sdBox c)).drew.cell? ((⟨w.heap.size, 0, none⟩ : Addr).add j) = some u := fun j u hj => ow_cells_new w #[.int .i64 c.a.tag, .int .i64 c.a.num, .int .i64 c.b.tag, .int .i64 c.b.num] 25 j u hj
theorem sd_snoc {w : World} {B : Nat} {L : List Wd} {c : Ce} {v : Value} (h : w.ownsRow B 25 2 v (L.length + 2) (L.flatMap Wd.cells ++ [.int .i64 c.a.tag, .int .i64 c.a.num, .int .i64 c.b.tag, .int .i64 c.b.num])) : w.ownsRow B 25 2 v (L ++ [c.a, c.b]).length ((L ++ [c.a, c.b]).flatMap Wd.cells) := by
  rw [List.flatMap_append, List.length_append]
  exact h
theorem sd_cells (c : Ce) : ∀ u ∈ [.int .i64 c.a.tag, .int .i64 c.a.num, .int .i64 c.b.tag, Value.int .i64 c.b.num], u.oneCell' = true := by
  intro u hu
  simp only [List.mem_cons, List.not_mem_nil, or_false] at hu
  rcases hu with rfl | rfl | rfl | rfl <;> rfl
theorem sd_box (w : World) (c : Ce) : Below w.heap.size w (w.alloc (sdBox c)).drew := (bt_new w _).drew

theorem sd_one (w : World) (d : Wd) : RowOf 2 Wd.cells (w.alloc (.cells #[.int .i64 d.tag, .int .i64 d.num] 25)) (· < (w.alloc (.cells #[.int .i64 d.tag, .int .i64 d.num] 25)).heap.size) [d] (.slice (some ⟨w.heap.size, 0, none⟩) 1 1) :=
  ⟨_, 1, rfl, fun i z hi => ⟨w.heap.size, 0, by simp, rfl, fun j u hj => by
    match i with
    | 0 =>
      have e : d = z := by simpa using hi
      subst e
      have := ow_cells_new w #[.int .i64 d.tag, .int .i64 d.num] 25 j u hj
      rw [Addr.add_mid] at this
      simpa using this
    | i + 1 => simp at hi⟩⟩
theorem bt_at {w : World} {lo : Nat} {l : List Nat} {v : Value} (h : w.ownsRow lo 3 1 v l.length (btV l)) : ∃ a cap, v = .slice a l.length cap ∧ ∀ j (hj : j < l.length), ∃ g, a = some ⟨g, 0, none⟩ ∧ w.cell? ⟨g, j, none⟩ = some (.int .i64 ((l[j] : Nat) : Int)) ∧ g < w.heap.size := by
  have hx := h.1
  have hlt := h.lt
  rcases h.2 with ⟨rfl, e⟩ | ⟨g, cap, cur, rfl, hg, hh, _⟩
  · exact ⟨none, 0, by rw [e], fun j hj => by omega⟩
  · refine ⟨_, cap, rfl, fun j hj => ⟨g, rfl, ?_, (Array.getElem?_eq_some_iff.1 hh).1⟩⟩
    rw [(ow_cell h j (by rw [btV_length]; exact hj)).1]
    simp [btV]
/-- ledTo's contract, its marks under a name. -/
theorem sd_led (ws : List Wd) (m : Mks) (hm : ledM ws = m) (hn : ws.length ≤ 1000000) (hl : ∀ d ∈ ws, d.tag = 4 → 0 ≤ d.num ∧ d.num < 256) (w : World) (v : Value) (hv : RowOf 2 Wd.cells w (· < w.heap.size) ws v) :
    Calls Tryd.prog 11 #[v] w fun r w' => r = .returned (.agg #[.int .u64 m.a, .int .u64 m.b, .int .u64 m.c, .int .u64 m.d]) ∧ Below w.heap.size w w' := by
  subst hm
  exact impl_ledTo ws hn hl w v hv

set_option maxRecDepth 100000 in
set_option maxHeartbeats 4000000 in
theorem impl_SameDeep (cs : List Ce) (hn : cs.length ≤ 1048576) (d : Wd) (v : Value) (w : World) (hv : Cells w (· < w.heap.size) cs v) (hT : BitTab w) :
    Calls Tryd.prog 5 #[v, .agg #[.int .i64 d.tag, .int .i64 d.num]] w fun r w' => r = .returned (.int .i64 (deepOf cs d)) ∧ Below w.heap.size w w' := by
  obtain ⟨a, cap, rfl⟩ := hv.slice
  have hk := fun w' (hv' : Cells w' (· < w'.heap.size) cs (.slice a cs.length cap)) => impl_HeapOk cs hn _ w' hv'
  have hb1 : Below w.heap.size w (w.alloc (dpBox d)) := (Below.refl _ _).alloc (Nat.le_refl _) _
  have hB : (w.alloc (dpBox d)).heap[w.heap.size]? = some (dpBox d) := heap_alloc_new w _
  have hK : Hid (∀ w', Below (w.alloc (dpBox d)).heap.size (w.alloc (dpBox d)) w' → ((w'.cell? ⟨w.heap.size, 0, none⟩ = some (.int .i64 d.tag) ∧ w'.cell? ⟨w.heap.size, 1, none⟩ = some (.int .i64 d.num)) ∧ Cells w' (· < w'.heap.size) cs (.slice a cs.length cap) ∧ Below w.heap.size w w')) := fun w' h =>
    ⟨dp_two (dp_keep hB h), hv.keep (hc_next hb1 h) (hc_next hb1 h).size, hc_next hb1 h⟩
  clear hb1 hB
  cases hh : heapM cs
  · rw [hh] at hk
    rw [deepOf_heap hh]
    clear hh
    go_enter Tryd.func5, Tryd.ntmps5
    go_upto_region 1 with fail
    change Code.wp _ _ _ _ (w.alloc (dpBox d))
    generalize w.alloc (dpBox d) = W1 at *
    have hr1 : Below W1.heap.size W1 W1 := Below.refl _ _
    obtain ⟨⟨c0, c1⟩, _⟩ := hK.out W1 hr1
    go_wp2_with (go_at_call 9; refine (hk _ (hK.out _ hr1).2.1).mono ?_; rintro r w2 ⟨rfl, hb2⟩)
    go_ret
    exact ⟨rfl, (hK.out _ hb2).2.2⟩
  rw [hh] at hk
  by_cases hw : wordP cs.length d.tag d.num
  · obtain ⟨h120, hrefs⟩ := heap_refs hh
    rw [deepOf_yes hh hw]
    have hW := fun w' => impl_wordOk_yes a cs.length cap (by omega) d.tag d.num w' hw
    have hrd : ∀ x ∈ [d], refOk cs.length x := by
      intro x hx
      rw [List.mem_singleton] at hx
      subst hx
      exact ref_of_word hw
    have h1 := deepL_one cs 14 d
    generalize deepM cs 14 d = T at *
    have KV : Hid (∀ w', Below w.heap.size w w' → Cells w' (· < w'.heap.size) cs (.slice a cs.length cap)) := fun w' h => hv.keep h h.size
    have KT : Hid (∀ w', Below w.heap.size w w' → BitTab w') := fun w' h => hT.keep h
    have HK : Hid (∀ (k : Nat) (hk : k < cs.length), ∃ b off, a = some ⟨b, off, none⟩ ∧ ∀ w', Below w.heap.size w w' → SdS w' b (off + k * 6) cs[k]) := fun k hk => by
      obtain ⟨b, off, hS, he, hr⟩ := hv.at k hk
      refine ⟨b, off, by simpa using he, fun w' h => ?_⟩
      obtain ⟨_, _, q2, q3, q4, q5⟩ := Ce.six (rw_same (h.block b hS) hr)
      exact ⟨q2, q3, q4, q5⟩
    clear hw hv hT hh
    go_enter Tryd.func5, Tryd.ntmps5
    go_upto_region 1 with fail
    change Code.wp _ _ _ _ (w.alloc (dpBox d))
    generalize hW1 : w.alloc (dpBox d) = W1 at *
    have hr1 : Below W1.heap.size W1 W1 := Below.refl _ _
    obtain ⟨⟨c0, c1⟩, _⟩ := hK.out W1 hr1
    go_upto_region 4 with (first
      | (go_at_call 9; refine (hk _ (hK.out _ hr1).2.1).mono ?_; rintro r w2 ⟨rfl, hb2⟩; clear c0 c1; (obtain ⟨⟨c0, c1⟩, _⟩ := hK.out w2 hb2))
      | (go_at_call 10; refine (hW _).mono ?_; rintro r w3 ⟨rfl, hb3⟩; have hb13 := hc_next hb2 hb3; clear c0 c1; (obtain ⟨⟨c0, c1⟩, _⟩ := hK.out w3 hb13)))
    have hB3 := (hK.out _ hb13).2.2
    clear hk hW hW1 hb2 hb3 hb13 hr1
    obtain ⟨m0, hm0⟩ : ∃ m, Hid (ledM [d] = m) := ⟨_, rfl⟩
    have hL0 := sd_led [d] m0 hm0.out (by simp) (fun x hx ht => ref_small h120 (hrd x hx) ht) _ _ (sd_one w3 d)
    go_wp2_with (go_at_call 11; refine hL0.mono ?_; rintro r w4 ⟨rfl, hb4⟩; have hB4 := (hB3.alloc hB3.size (.cells #[.int .i64 d.tag, .int .i64 d.num] 25)).trans (hb4.mono (by have := hB3.size; simp; omega)))
    have hz4 := hB4.size
    go_loopg [5, 6] 14 (fun k v i wr => ∃ (j : Nat) (ws : List Wd) (m : Mks) (g : Nat), j + k = 14 ∧ v = .int .i64 j ∧ i = .pointer (some ⟨g, 0, none⟩) ∧ w.heap.size ≤ g ∧ MkAt wr g m ∧ ledM ws = m ∧ (∀ d ∈ ws, refOk cs.length d) ∧ j + deepL cs (14 - j) ws = T ∧ Below w.heap.size w wr)
    case atStart => exact ⟨0, [d], m0, w4.heap.size, by omega, rfl, rfl, hz4, heap_alloc_new w4 (mkBox m0), hm0.out, hrd, by show 0 + deepL cs 14 [d] = T; omega, hB4.alloc hz4 _⟩
    case round =>
      clear hB3 hL0 hB4 hz4 hm0 h1 c0 c1 hrd hK
      obtain ⟨j, ws, m, g, hj, rfl, rfl, hg, hM, hm, hws, hdT, hB⟩ := hrel
      have hz := hB.size
      have hmo : m.ok := by rw [← hm]; exact ledM_ok ws
      have c0 := hM.cell (i := 0) (by omega)
      have c1 := hM.cell (i := 1) (by omega)
      have c2 := hM.cell (i := 2) (by omega)
      have c3 := hM.cell (i := 3) (by omega)
      by_cases hlt : j < 14
      · have hji : (j : Int) < 14 := by omega
        by_cases he : m = Mks.zero
        · have HT : Hid ((j : Int) = (T : Int)) := by
            show _ = _
            have := deep_end (cs := cs) (m := 14 - j) h120 hws (by rw [hm, he]; exact Mks.places_zero)
            omega
          have hE := fun w' => bt_none m he w'
          clear hdT hws hm he
          go_wp2_with fail
          go_ret
          exact ⟨by rw [← HT.out]; rfl, hB⟩
        · have hne : (ledM ws).places ≠ [] := fun e => he (Mks.none_of hmo (by rw [← hm]; exact e))
          have hR := deep_round (cs := cs) (m := 13 - j) h120 hws hne
          rw [show 13 - j + 1 = 14 - j by omega] at hR
          have hplt := places_lt h120 hws
          have hpl := m.upto_len 4
          rw [hm] at hR hplt
          change m.places.length ≤ 4 * 64 at hpl
          have hE := fun w' => bt_some m he w'
          have hP := impl_places m hmo wr g hM (KT.out wr hB)
          have HD : Hid (j + (deepL cs (13 - j) (nextW cs m.places) + 1) = T) := by show _ = _; rw [← hR]; exact hdT
          clear hdT hws hm he hne hR
          generalize m.places = P at *
          obtain ⟨i2, hi2, hiz2, his2, hib2⟩ := info_parts btWd
          go_wp2_with (go_at_call 12; refine hP.mono ?_; rintro r w5 ⟨v5, rfl, hO5, hb5⟩; obtain ⟨pa, pcap, rfl, hpc⟩ := bt_at hO5)
          have hB5 := hB.trans (hb5.mono hz)
          have hz5 := hB5.size
          have hM5 := hM.keep hb5
          clear hP c0 c1 c2 c3 hE hO5 hb5
          go_loopg [7, 33] P.length (fun k v i wq => ∃ q : Nat, q + k = P.length ∧ i = .int .i64 q ∧ wq.ownsRow w5.heap.size 25 2 v (nextW cs (P.take q)).length ((nextW cs (P.take q)).flatMap Wd.cells) ∧ Below w5.heap.size w5 wq)
          case atStart => exact ⟨0, by omega, rfl, World.ownsRow_nil _ _ _ _, Below.refl _ _⟩
          case round =>
            rename World => wq
            obtain ⟨q, hq, rfl, hO, hB5q⟩ := hrel
            have hBq := hB5.trans (hB5q.mono hz5)
            have hzq := hB5q.size
            have hnl := nextW_len cs (P.take q)
            by_cases hql : q < P.length
            · have hqi : (q : Int) < (P.length : Int) := by omega
              obtain ⟨pg, rfl, hpq, hpg⟩ := hpc q hql
              have hpq' : wq.cell? ⟨pg, q, none⟩ = some (.int .i64 ((P[q] : Nat) : Int)) := by rw [hB5q.cell (p := ⟨pg, q, none⟩) hpg]; exact hpq
              have hpl1 := hplt P[q] (List.getElem_mem hql)
              have htk : P.take (q + 1) = P.take q ++ [P[q]] := List.take_succ_eq_append_getElem hql
              have hnx := nextW_snoc (cs := cs) (l := P.take q) hpl1
              rw [← htk] at hnx
              have hll : (nextW cs (P.take q)).length ≤ 1000 := by
                rw [List.length_take] at hnl
                omega
              obtain ⟨b, off, rfl, hcell⟩ := HK.out P[q] hpl1
              generalize P[q] = p at *
              have hpi : (p : Int) < (cs.length : Int) := by omega
              obtain ⟨q2, q3, q4, q5⟩ := hcell wq hBq
              have HS : Hid (∀ w', Below w.heap.size w w' → SdS w' b (off + p * 6) cs[p]) := hcell
              have HN : Hid (nextW cs (P.take (q + 1)) = nextW cs (P.take q) ++ [cs[p].a, cs[p].b]) := hnx
              have hOb := ow_keep hO (sd_box wq cs[p])
              have hNw := sd_news wq cs[p]
              have hzb := Nat.le_trans hzq (sd_box wq cs[p]).size
              have hB5b := hc_next hB5q (sd_box wq cs[p])
              clear hcell hnx htk hnl hpq hpc
              generalize nextW cs (P.take q) = L at *
              generalize cs[p] = c at *
              go_wp2_with fail
              go_region_held3 (fun w' => w'.cell? ⟨b, off + p * 6 + 2, none⟩ = some (.int .i64 c.a.tag) ∧ w'.cell? ⟨b, off + p * 6 + 3, none⟩ = some (.int .i64 c.a.num) ∧ w'.cell? ⟨b, off + p * 6 + 4, none⟩ = some (.int .i64 c.b.tag) ∧ w'.cell? ⟨b, off + p * 6 + 5, none⟩ = some (.int .i64 c.b.num)) (first | go_keep | exact ⟨q2, q3, q4, q5⟩ | exact HS.out _ (by assumption)) (first | (refine step_append_own rfl (.tmp 37) (.tmp 48) _ rfl w5.heap.size 25 i2 _ 2 16 Tryd.underlying40 hi2 hiz2 his2 hib2 rfl (by decide) _ _ _ rfl hOb ⟨wq.heap.size, 0, none⟩ 2 2 _ rfl rfl hNw (sd_cells c) (by unfold maxLen; omega) (by omega) hzb ?_; intro v8 w8 hO8 hG8; have hB58 : Below w5.heap.size w5 w8 := hB5b.grown hG8 hzb (fun k hk => (hO.lt k hk).1); have hB8 := hB5.trans (hB58.mono hz5)))
              go_wp2_with fail
              go_roundg (P.length - (q + 1))
              case measure => omega
              case rel => exact ⟨q + 1, by omega, by go_num, by rw [HN.out]; exact sd_snoc hO8, hB58⟩
            · obtain rfl : q = P.length := by omega
              have hqi : ¬ (P.length : Int) < (P.length : Int) := by omega
              rw [List.take_length] at hO hnl
              clear hpc
              generalize hL : nextW cs P = L at *
              have hLo : ∀ x ∈ L, refOk cs.length x := by rw [← hL]; exact nextW_ok hrefs
              obtain ⟨m2, hm2⟩ : ∃ m, Hid (ledM L = m) := ⟨_, rfl⟩
              have hLed := sd_led L m2 hm2.out (by omega) (fun x hx ht => ref_small h120 (hLo x hx) ht) wq u7 ((OwnR.row (α := Wd) (f := Wd.cells) hO (fun _ => rfl)).same fun _ hb => ⟨rfl, hb.2⟩)
              have hM9 : Hid (∀ w9, Below wq.heap.size wq w9 → MkAt w9 g m) := fun w9 h => (hM5.keep hB5q).keep h
              have HL : Hid (L = nextW cs P) := hL.symm
              clear hL hnl hO
              go_wp2_with (go_at_call 11; refine hLed.mono ?_; rintro r w9 ⟨rfl, hb9⟩; have hMg := hM9.out _ hb9; have d0 := hMg.cell (i := 0) (by omega); have d1 := hMg.cell (i := 1) (by omega); have d2 := hMg.cell (i := 2) (by omega); have d3 := hMg.cell (i := 3) (by omega); have f0 := hMg.frozen 0; have f1 := hMg.frozen 1; have f2 := hMg.frozen 2; have f3 := hMg.frozen 3)
              go_roundg (14 - (j + 1))
              case measure => omega
              case rel =>
                have hB9 := hBq.trans (hb9.mono (Nat.le_trans hz5 hzq))
                have hz9 := hB9.size
                have hBW := (((hB9.setCell (p := ⟨g, 0, none⟩) hg (.int .u64 m2.a)).setCell (p := ⟨g, 1, none⟩) hg (.int .u64 m2.b)).setCell (p := ⟨g, 2, none⟩) hg (.int .u64 m2.c)).setCell (p := ⟨g, 3, none⟩) hg (.int .u64 m2.d)
                refine ⟨j + 1, L, m2, w9.heap.size, by omega, by go_num, rfl, hz9, ?_, hm2.out, hLo, ?_, hBW.alloc hBW.size _⟩
                · have := heap_alloc_new ((((w9.setCell ⟨g, 0, none⟩ (.int .u64 m2.a)).setCell ⟨g, 1, none⟩ (.int .u64 m2.b)).setCell ⟨g, 2, none⟩ (.int .u64 m2.c)).setCell ⟨g, 3, none⟩ (.int .u64 m2.d)) (mkBox m2)
                  show (World.alloc _ (mkBox m2)).heap[_]? = some (mkBox m2)
                  simpa using this
                · have h3 := HD.out
                  rw [show 14 - (j + 1) = 13 - j by omega]
                  omega
      · obtain rfl : j = 14 := by omega
        have HT : Hid ((14 : Int) = (T : Int)) := by show _ = _; have : deepL cs (14 - 14) ws = 0 := Nat.le_zero.1 (deepL_le.2 fun _ _ => Nat.le_refl _); omega
        clear hdT hws hm
        go_wp2_with fail
        go_ret
        exact ⟨by rw [← HT.out]; rfl, hB⟩
  · rw [deepOf_word hw]
    have hW := fun w' => impl_wordOk_no a cs.length cap (by omega) d.tag d.num w' hw
    clear hh hw hv
    go_enter Tryd.func5, Tryd.ntmps5
    go_upto_region 1 with fail
    change Code.wp _ _ _ _ (w.alloc (dpBox d))
    generalize w.alloc (dpBox d) = W1 at *
    have hr1 : Below W1.heap.size W1 W1 := Below.refl _ _
    obtain ⟨⟨c0, c1⟩, _⟩ := hK.out W1 hr1
    go_wp2_with (first
      | (go_at_call 9; refine (hk _ (hK.out _ hr1).2.1).mono ?_; rintro r w2 ⟨rfl, hb2⟩; clear c0 c1; (obtain ⟨⟨c0, c1⟩, _⟩ := hK.out w2 hb2))
      | (go_at_call 10; refine (hW _).mono ?_; rintro r w3 ⟨rfl, hb3⟩))
    go_ret
    exact ⟨rfl, (hK.out _ (hc_next hb2 hb3)).2.2⟩
end Go.Proofs.YthcifgpkiclkiaaDoor
