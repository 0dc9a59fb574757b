/-
  The law FnReach.
-/
import Derived.Test.YtoijdgklijdcfaaRdReach
import Derived.Test.YtoijdgklijdcfaaReTop
import Derived.Test.YtoijdgklijdcfaaHrTop
import Derived.Test.YtoijdgklijdcfaaMeInt
namespace Go.Proofs.Ytoijdgklijdcfaa
open Go.RowKit

theorem owni {w : World} {lo : Nat} {l : List Nat} {v : Value} (h : w.ownsRow lo 3 1 v l.length (natsV l)) : OwnI w lo w.heap.size l v := ⟨h, fun k hk => (h.lt k hk).2⟩
theorem reach_len (cs : List Ce) (ws : List Wd) (h : cs.length ≤ 20) : (reachM cs ws).length ≤ 20 := by
  unfold reachM
  split
  · rename_i hh
    obtain ⟨_, hrefs⟩ := heap_refs hh.1
    have hml : (copyS cs [] ws).mv.length = cs.length := loop_mv cs hrefs (cs.length + 1) _ 0 0 (Inv.words hrefs ws _ (inv0 cs []) (words_refs hh.2))
    have := takenTo_le (inM (copyS cs [] ws)) (inM (copyS cs [] ws)).length
    rw [inM_length, hml] at this
    show (takenM _).length ≤ 20
    unfold takenM
    rw [inM_length, hml]
    omega
  · simp

theorem one_word {w : World} {b o c : Nat} {x : Wd} (hb : b < w.heap.size) (hr : w.rangeAt b o (Wd.cells x)) : Words w (· < w.heap.size) [x] (.slice (some ⟨b, o, none⟩) 1 c) :=
  ⟨_, c, rfl, fun i y hi => by
    match i with
    | 0 =>
      have e : x = y := by simpa using hi
      subst e
      exact ⟨b, o, hb, rfl, by simpa using hr⟩
    | i + 1 => simp at hi⟩
theorem bools_set (l : List Bool) (q : Nat) : boolsV (l.set q true) = (boolsV l).set q (.bool true) := by
  unfold boolsV
  rw [List.map_set]
theorem getD_set {l : List Bool} {p q : Nat} (hp : p < l.length) : (l.set p true).getD q false = true ↔ l.getD q false = true ∨ q = p := by
  simp only [List.getD_eq_getElem?_getD]
  by_cases e : q = p
  · subst e
    rw [List.getElem?_set_self hp]
    simp
  · rw [List.getElem?_set_ne (fun h => e h.symm)]
    simp [e]
theorem mark_next {inn in2 : List Bool} {one : List Nat} {t p : Nat} (ht : t < one.length) (hp : one[t] = p) (hl : p < in2.length) (h : ∀ q, in2.getD q false = true ↔ inn.getD q false = true ∨ q ∈ one.take t) : ∀ q, (in2.set p true).getD q false = true ↔ inn.getD q false = true ∨ q ∈ one.take (t + 1) := by
  intro q
  rw [getD_set hl, h, List.take_succ_eq_append_getElem ht, List.mem_append, hp]
  simp only [List.mem_singleton]
  constructor
  · rintro ((h | h) | h)
    · exact Or.inl h
    · exact Or.inr (Or.inl h)
    · exact Or.inr (Or.inr h)
  · rintro (h | h | h)
    · exact Or.inl (Or.inl h)
    · exact Or.inl (Or.inr h)
    · exact Or.inr h
theorem two_words (w : World) (x y : Wd) (t : TypeId) : Words (w.alloc (.cells #[.int .i64 x.tag, .int .i64 x.num, .int .i64 y.tag, .int .i64 y.num] t)) (· < (w.alloc (.cells #[.int .i64 x.tag, .int .i64 x.num, .int .i64 y.tag, .int .i64 y.num] t)).heap.size) [x, y] (.slice (some ⟨w.heap.size, 0, none⟩) 2 2) :=
  ⟨_, 2, rfl, fun i z hi => ⟨w.heap.size, 0, by simp, rfl, fun j u hj => by
    have key : ∀ j, (w.alloc (.cells #[.int .i64 x.tag, .int .i64 x.num, .int .i64 y.tag, .int .i64 y.num] t)).cell? ⟨w.heap.size, j, none⟩ = (#[.int .i64 x.tag, .int .i64 x.num, .int .i64 y.tag, .int .i64 y.num] : Array Value)[j]? := fun j => cell_of_row _ _ _ _ _ _ (heap_alloc_new w _)
    rw [key]
    match i with
    | 0 =>
      have e : x = z := by simpa using hi
      subst e
      match j with
      | 0 => simpa [Wd.cells] using hj
      | 1 => simpa [Wd.cells] using hj
      | j + 2 => simp [Wd.cells] at hj
    | 1 =>
      have e : y = z := by simpa using hi
      subst e
      match j with
      | 0 => simpa [Wd.cells] using hj
      | 1 => simpa [Wd.cells] using hj
      | j + 2 => simp [Wd.cells] at hj
    | i + 2 => simp at hi⟩⟩
set_option maxRecDepth 100000 in
set_option maxHeartbeats 4000000 in
theorem law_Reach (len : Nat) (w : World) (v : Value) (hv : Bytes w w.heap.size len v) :
    Calls Try.prog 3 #[v] w fun e w' => e = .returned (.bool true) ∧ Below w.heap.size w w' := by
  have hv0 := hv
  obtain ⟨a, cap, rfl, h1, h2, h3⟩ := hv
  clear h3
  unfold maxLen at h2
  by_cases hbig : 1048576 < len
  · have hi : (1048576 : Int) < (len : Int) := by omega
    go_enter Try.func3, Try.ntmps3
    go_wp2_with fail
    go_ret
    exact ⟨rfl, Below.refl _ _⟩
  have hi : ¬ (1048576 : Int) < (len : Int) := by omega
  go_enter Try.func3, Try.ntmps3
  go_upto_region 4 with (go_at_call 4; refine (spec_DrawHeapReach _ len _ hv0).mono ?_; rintro e w1 ⟨cs, ws, vc, vw, rfl, hcl, hwl, hC, hW, hRo, hB1⟩)
  clear hv0
  have hal := reach_len cs ws hcl
  obtain ⟨ca, ccap, rfl⟩ := hC.slice
  obtain ⟨wa, wcap, rfl⟩ := hW.slice
  go_upto_if 36 with (first
    | (go_at_call 5; refine (impl_HeapReach cs (by omega) ws (by omega) _ _ _ hC hW).mono ?_; rintro e w2 ⟨va, rfl, hA2, hb2⟩; have hB2 := hc_next hB1 hb2; have hC2 := hC.keep hb2 hb2.size; have hW2 := hW.keep hb2 hb2.size)
    | (go_at_call 7; refine (spec_HeapReach cs (by omega) ws (by omega) _ _ _ hC2 hW2).mono ?_; rintro e w3 ⟨vb, rfl, hD3, hb3⟩; have hB3 := hc_next hB2 hb3; have hC3 := hC2.keep hb3 hb3.size; have hW3 := hW2.keep hb3 hb3.size; have hA3 := ow_keep hA2 hb3)
    | (go_at_call 6; refine (law_enInts (reachM cs ws) (by omega) _ _ _ _ _ _ _ (owni hA3) (owni hD3)).mono ?_; rintro e w4 ⟨rfl, hb4⟩; have hB4 := hc_next hB3 hb4; have hC4 := hC3.keep hb4 hb4.size; have hW4 := hW3.keep hb4 hb4.size; have hA4 := ow_keep hA3 hb4)
    | (go_at_call 8; refine (impl_HeapOk cs (by omega) _ _ hC4).mono ?_; rintro e w5 ⟨rfl, hb5⟩; have hB5 := hc_next hB4 hb5; have hC5 := hC4.keep hb5 hb5.size; have hW5 := hW4.keep hb5 hb5.size; have hA5 := ow_keep hA4 hb5))
  obtain ⟨hwc, hwm⟩ : ws.length ≤ wcap ∧ wcap ≤ maxLen := by
    obtain ⟨a', c', e, h1, h2⟩ := hRo
    obtain ⟨_, rfl⟩ : wa = a' ∧ wcap = c' := by simpa using e
    exact ⟨h1, h2⟩
  unfold maxLen at hwm
  clear hRo hC hW hB1 hb2 hA2 hC2 hW2 hB2 hb3 hD3 hB3 hC3 hW3 hA3 hb4 hB4 hC4 hW4 hA4 hb5
  cases hh : heapM cs
  · go_wp2_with (first
      | (go_at_call 7; refine (spec_HeapReach cs (by omega) ws (by omega) _ _ _ hC5 hW5).mono ?_; rintro e w6 ⟨vd, rfl, hD6, hb6⟩; have hB6 := hc_next hB5 hb6; have hA6 := ow_keep hA5 hb6)
      | (go_at_call 6; refine (law_enInts (reachM cs ws) (by omega) _ _ _ _ _ _ _ (owni hA6) (owni hD6)).mono ?_; rintro e w7 ⟨rfl, hb7⟩; have hB7 := hc_next hB6 hb7))
    go_ret
    exact ⟨rfl, hB7⟩
  have hmk := make_bools cs.length (by omega)
  go_wp2_with fail
  have hI0 := made_bools w5 cs.length w5.heap.size (Nat.le_refl _) (by omega)
  have hB50 : Below w5.heap.size w5 (w5.alloc (.cells (madeCells #[.bool false] cs.length) 4)) := (Below.refl _ _).alloc (Nat.le_refl _) _
  go_loopg [7] ws.length (fun k i wr => ∃ (j : Nat) (inn : List Bool), j + k = ws.length ∧ i = .int .i64 (j : Int) ∧ inn.length = cs.length ∧ wr.ownsRow w5.heap.size 4 1 (.slice (some ⟨w5.heap.size, 0, none⟩) cs.length cs.length) cs.length (boolsV inn) ∧ Hid (∀ q, inn.getD q false = true ↔ ∃ x ∈ ws.take j, q ∈ reachM cs [x]) ∧ Below w5.heap.size w5 wr)
  case atStart => exact ⟨0, List.replicate cs.length false, by omega, rfl, by simp, hI0, fun q => by simp [List.getD_eq_getElem?_getD, List.getElem?_replicate]; split <;> simp, hB50⟩
  case round =>
    clear hI0 hB50
    obtain ⟨j, inn, hj, rfl, hil, hI, HQ, hBr⟩ := hrel
    by_cases hlt : j < ws.length
    · have hji : (j : Int) < (ws.length : Int) := by omega
      have hCr := hC5.keep hBr hBr.size
      have hWr := hW5.keep hBr hBr.size
      obtain ⟨wb, woff, hwb, rfl, hwr⟩ := hWr.at j hlt
      have hjc : (j : Int) + 1 ≤ (wcap : Int) := by omega
      have hon := reach_len cs [ws[j]] hcl
      go_wp2_with (go_at_call 5; refine (impl_HeapReach cs (by omega) [ws[j]] (by simp) _ _ _ hCr (one_word hwb hwr)).mono ?_; rintro e w8 ⟨v8, rfl, hO8, hb8⟩)
      have hltq : Hid (∀ q ∈ reachM cs [ws[j]], q < cs.length) := fun q hq => reach_lt hq
      have HT : Hid (∀ q, (∃ x ∈ ws.take (j + 1), q ∈ reachM cs [x]) ↔ (∃ x ∈ ws.take j, q ∈ reachM cs [x]) ∨ q ∈ reachM cs [ws[j]]) := fun q => by
        rw [List.take_succ_eq_append_getElem hlt]
        constructor
        · rintro ⟨x, hx, hq⟩
          rcases List.mem_append.1 hx with hx | hx
          · exact Or.inl ⟨x, hx, hq⟩
          · have e : x = ws[j] := by simpa using hx
            subst e
            exact Or.inr hq
        · rintro (⟨x, hx, hq⟩ | hq)
          · exact ⟨x, List.mem_append_left _ hx, hq⟩
          · exact ⟨ws[j], List.mem_append_right _ (List.mem_singleton.2 rfl), hq⟩
      generalize reachM cs [ws[j]] = one at *
      have hI8 := ow_keep hI hb8
      have hGr := (hI.lt w5.heap.size rfl).2
      have hB8 : Below w5.heap.size w5 w8 := hBr.trans (hb8.mono hBr.size)
      have hO8lt := hO8.lt
      obtain ⟨a8, cap8, rfl, hc8⟩ := own_at hO8
      have hnl := natsV_length one
      go_loopg [9] one.length (fun k i wi => ∃ (t : Nat) (in2 : List Bool), t + k = one.length ∧ i = .int .i64 (t : Int) ∧ in2.length = cs.length ∧ wi.ownsRow w5.heap.size 4 1 (.slice (some ⟨w5.heap.size, 0, none⟩) cs.length cs.length) cs.length (boolsV in2) ∧ Hid (∀ q, in2.getD q false = true ↔ inn.getD q false = true ∨ q ∈ one.take t) ∧ w8.grownBy wi (some w5.heap.size))
      case atStart => exact ⟨0, inn, by omega, rfl, hil, hI8, fun q => by simp, World.grownBy.refl _ _⟩
      case round =>
        obtain ⟨t, in2, ht, rfl, hi2, hI2, HQ2, hg2⟩ := hrel
        by_cases hlt2 : t < one.length
        · obtain ⟨g8, rfl, hc⟩ := hc8 t (by omega)
          obtain ⟨hg8a, hg8b⟩ := hO8lt g8 rfl
          have e0 : (natsV one)[t]'(by omega) = .int .i64 (one[t] : Int) := by simp [natsV]
          rw [e0] at hc
          have hc' := but_cell hg2 hg8b (by omega) hc
          have hpl : one[t] < cs.length := hltq.out _ (List.getElem_mem hlt2)
          have HN : Hid (∀ q, (in2.set one[t] true).getD q false = true ↔ inn.getD q false = true ∨ q ∈ one.take (t + 1)) := mark_next hlt2 rfl (by omega) HQ2.out
          generalize one[t] = p at *
          have hti : (t : Int) < (one.length : Int) := by omega
          have hpi : (p : Int) < (cs.length : Int) := by omega
          have hbl : p < (boolsV in2).length := by rw [boolsV_length]; omega
          obtain ⟨d0, df⟩ := ow_cell hI2 p hbl
          generalize (boolsV in2)[p] = dv at d0
          have hI2' := ow_set hI2 p (.bool true)
          rw [← bools_set] at hI2'
          clear e0 hc hc8
          go_wp2_with fail
          go_roundg (one.length - (t + 1))
          case measure => omega
          case rel => exact ⟨t + 1, in2.set p true, by omega, by go_num, by rw [List.length_set]; exact hi2, hI2', HN, ow_grown_trans hg2 (ow_but_set _ _ _ _)⟩
        · obtain rfl : t = one.length := by omega
          have hti : ¬ (one.length : Int) < (one.length : Int) := by omega
          go_wp2_with fail
          go_roundg (ws.length - (j + 1))
          case measure => omega
          case rel => exact ⟨j + 1, in2, by omega, by go_num, hi2, hI2, fun q => by rw [HQ2.out, HQ.out, HT.out, List.take_length], hB8.grown hg2 hB8.size (fun k hk => by cases hk; exact Nat.le_refl _)⟩
    · obtain rfl : j = ws.length := by omega
      rename World => wA
      have hji : ¬ (ws.length : Int) < (ws.length : Int) := by omega
      have HI : Hid (∀ q, inn.getD q false = true ↔ ∃ x ∈ ws, q ∈ reachM cs [x]) := fun q => by rw [HQ.out, List.take_length]
      have HM : Hid (inn.countP id = (reachM cs ws).length ∨ (reachM cs ws).length = 0) := reach_many hh inn hil HI.out
      have HS : Hid ((reachM cs ws).Pairwise (· < ·)) := reach_sorted cs ws
      have HL : Hid (∀ q ∈ reachM cs ws, q < cs.length ∧ inn.getD q false = true ∧ ∀ (hq : q < cs.length), ∀ p ∈ reachM cs [cs[q].a, cs[q].b], p < cs.length ∧ inn.getD p false = true) := fun q hq => by
        have hw := reach_some hq
        refine ⟨reach_lt hq, (HI.out q).2 ((reach_each hh hw q).1 hq), fun hql p hp => ⟨reach_lt hp, (HI.out p).2 ((reach_each hh hw p).1 (reach_cell hh hw hq hql hp))⟩⟩
      have hAr := ow_keep hA5 hBr
      have hCr := hC5.keep hBr hBr.size
      have hBw := hc_next hB5 hBr
      clear HQ hj hA5 hC5 hW5 hmk hB5
      generalize reachM cs ws = al at *
      have hnl := natsV_length al
      have hAlt := hAr.lt
      obtain ⟨a7, cap7, rfl, hc7⟩ := own_at hAr
      have hbl := boolsV_length inn
      have hIc := fun p hp => (ow_cell hI p hp).1
      have hIlt := (hI.lt w5.heap.size rfl).2
      go_wp2_with fail
      go_loopg [11] al.length (fun k i wi => ∃ t : Nat, t + k = al.length ∧ i = .int .i64 (t : Int) ∧ Below wA.heap.size wA wi)
      case atStart => exact ⟨0, by omega, rfl, Below.refl _ _⟩
      case round =>
        obtain ⟨t, ht, rfl, hBi⟩ := hrel
        by_cases hlt2 : t < al.length
        · have hti : (t : Int) < (al.length : Int) := by omega
          obtain ⟨g7, rfl, hc⟩ := hc7 t (by omega)
          have hg7 := (hAlt g7 rfl).2
          have e0 : (natsV al)[t]'(by omega) = .int .i64 (al[t] : Int) := by simp [natsV]
          rw [e0] at hc
          have hc' : ∀ w', Below wA.heap.size wA w' → w'.cell? ⟨g7, t, none⟩ = some (.int .i64 (al[t] : Int)) := fun w' h => by rw [h.cell (p := ⟨g7, t, none⟩) hg7]; exact hc
          obtain ⟨hpl, hpin, hpp⟩ := HL.out al[t] (List.getElem_mem hlt2)
          have hpc : ∀ w', Below wA.heap.size wA w' → w'.cell? ⟨w5.heap.size, al[t], none⟩ = some (.bool true) := fun w' h => by
            rw [h.cell (p := ⟨w5.heap.size, al[t], none⟩) hIlt, hIc al[t] (by omega)]
            have e : inn[al[t]]'(by omega) = true := by rw [List.getD_eq_getElem?_getD, List.getElem?_eq_getElem (by omega)] at hpin; exact hpin
            simp [boolsV, e]
          have hprev : ∀ s, t = s + 1 → ∃ z : Int, z < (al[t] : Int) ∧ ∀ w', Below wA.heap.size wA w' → w'.cell? ⟨g7, s, none⟩ = some (.int .i64 z) := fun s hs => by
            obtain ⟨g8, e8, hd⟩ := hc7 s (by omega)
            obtain rfl : g7 = g8 := by simpa using e8
            refine ⟨(al[s]'(by omega) : Int), ?_, fun w' h => ?_⟩
            · have := List.pairwise_iff_getElem.1 HS.out s t (by omega) hlt2 (by omega)
              omega
            · rw [h.cell (p := ⟨g7, s, none⟩) hg7, hd]
              simp [natsV]
          obtain ⟨cb, coff, hcb, rfl, hcr⟩ := hCr.at al[t] hpl
          have hq6 := fun w' (h : Below wA.heap.size wA w') => Ce.six (rw_same (h.block cb hcb) hcr)
          have hpi : (al[t] : Int) < (cs.length : Int) := by omega
          have HP : Hid (∀ p ∈ reachM cs [cs[al[t]].a, cs[al[t]].b], p < cs.length ∧ inn.getD p false = true) := hpp hpl
          have htw := reach_len cs [cs[al[t]].a, cs[al[t]].b] hcl
          clear hcr hpp hpin hc e0 hc7
          generalize cs[al[t]] = c at *
          generalize al[t] = p at *
          have hc0 := hc' _ hBi
          have hp0 := hpc _ hBi
          go_upto_region 20 with fail
          go_cut [99] from 70 to 132 (fun s99 wx => s99 = .bool false ∧ Below wr.heap.size wr wx)
          case first =>
            rcases Nat.eq_zero_or_pos t with hz | hz
            · have hzi : ¬ (0 : Int) < (t : Int) := by omega
              have hzn : ¬ 0 < t := by omega
              clear hz hprev
              go_quiet (fail)
              go_wp2_with fail
              go_meet
              case rel => exact ⟨rfl, ⟨rfl, rfl, rfl, Nat.le_refl _, fun _ _ => rfl⟩⟩
            · obtain ⟨s, hs⟩ : ∃ s, t = s + 1 := ⟨t - 1, by omega⟩
              obtain ⟨z, hzp, hzc⟩ := hprev s hs
              have hsc := hzc _ hBi
              have hzi : (0 : Int) < (t : Int) := by omega
              have hzl : ¬ (p : Int) ≤ z := by omega
              have hsl : (s : Int) < (al.length : Int) := by omega
              have vW : IntKind.i64.wrap ((t : Int) - 1) = (s : Int) := by rw [wr64 _ (by omega) (by omega)]; omega
              clear hprev hzc hs
              go_quiet (fail)
              go_wp2_with fail
              go_meet
              case rel => exact ⟨rfl, ⟨rfl, rfl, rfl, Nat.le_refl _, fun _ _ => rfl⟩⟩
          case rest =>
            obtain ⟨rfl, hBx⟩ := hcut
            have hBc := hc_next hBi hBx
            clear hc0 hp0 hprev hpc
            have hc0 := hc' _ hBc
            obtain ⟨_, _, q2, q3, q4, q5⟩ := hq6 _ hBc
            have hCc := fun w' (h : Below wc.heap.size wc w') => (hCr.keep hBc hBc.size).keep h h.size
            have HK : ∀ w', Below wc.heap.size wc w' → (w'.cell? ⟨g7, t, none⟩ = some (.int .i64 (p : Int)) ∧ w'.cell? ⟨cb, coff + p * 6 + 2, none⟩ = some (.int .i64 c.a.tag) ∧ w'.cell? ⟨cb, coff + p * 6 + 3, none⟩ = some (.int .i64 c.a.num) ∧ w'.cell? ⟨cb, coff + p * 6 + 4, none⟩ = some (.int .i64 c.b.tag) ∧ w'.cell? ⟨cb, coff + p * 6 + 5, none⟩ = some (.int .i64 c.b.num)) := fun w' h => by
              have h' := hc_next hBc h
              obtain ⟨_, _, r2, r3, r4, r5⟩ := hq6 _ h'
              exact ⟨hc' _ h', r2, r3, r4, r5⟩
            go_upto_region 22 with fail
            go_cut [12] from 70 to 132 (fun s12 wx => wx.ownsRow wc.heap.size 3 1 s12 (reachM cs [c.a, c.b]).length (natsV (reachM cs [c.a, c.b])) ∧ Below wc.heap.size wc wx)
            case first =>
              go_region_held3 (fun w' => w'.cell? ⟨g7, t, none⟩ = some (.int .i64 (p : Int)) ∧ w'.cell? ⟨cb, coff + p * 6 + 2, none⟩ = some (.int .i64 c.a.tag) ∧ w'.cell? ⟨cb, coff + p * 6 + 3, none⟩ = some (.int .i64 c.a.num) ∧ w'.cell? ⟨cb, coff + p * 6 + 4, none⟩ = some (.int .i64 c.b.tag) ∧ w'.cell? ⟨cb, coff + p * 6 + 5, none⟩ = some (.int .i64 c.b.num)) (first | go_keep | exact ⟨hc0, q2, q3, q4, q5⟩ | exact HK _ (by assumption)) (first
                | (go_at_call 5; refine (impl_HeapReach cs (by omega) [c.a, c.b] (by simp) _ _ _ (hCc _ (below_new _ _).drew) (two_words wc c.a c.b _).drew).mono ?_; rintro e w9 ⟨v9, rfl, hO9, hb9⟩; have hE9 : Below wc.heap.size wc w9 := hc_next (below_new _ _).drew hb9; have hO9' := ow_base (B' := wc.heap.size) hO9 (by show wc.heap.size ≤ (wc.alloc _).heap.size; simp)))
              go_wp2_with fail
              go_meet
              case rel => exact ⟨hO9', hE9⟩
            case rest =>
              obtain ⟨hO9, hE9⟩ := hcut
              have hB9 := hc_next hBc hE9
              clear hc0 q2 q3 q4 q5 HK hCc hq6 hc' hBx
              generalize reachM cs [c.a, c.b] = two at *
              have hO9lt := hO9.lt
              obtain ⟨a9, cap9, rfl, hc9⟩ := own_at hO9
              have hn9 := natsV_length two
              go_wp2_with fail
              go_loopg [13] two.length (fun k i wi => ∃ (s : Nat), s + k = two.length ∧ i = .int .i64 (s : Int) ∧ wi = wc)
              case atStart => exact ⟨0, by omega, rfl, rfl⟩
              case round =>
                obtain ⟨s, hs, rfl, hww⟩ := hrel
                subst hww
                by_cases hls : s < two.length
                · have hsi : (s : Int) < (two.length : Int) := by omega
                  obtain ⟨g9, rfl, hd⟩ := hc9 s (by omega)
                  have e1 : (natsV two)[s]'(by omega) = .int .i64 (two[s] : Int) := by simp [natsV]
                  rw [e1] at hd
                  obtain ⟨hp2, hin2⟩ := HP.out two[s] (List.getElem_mem hls)
                  have hi9 : wr.cell? ⟨w5.heap.size, two[s], none⟩ = some (.bool true) := by
                    rw [hB9.cell (p := ⟨w5.heap.size, two[s], none⟩) hIlt, hIc two[s] (by omega)]
                    have e : inn[two[s]]'(by omega) = true := by rw [List.getD_eq_getElem?_getD, List.getElem?_eq_getElem (by omega)] at hin2; exact hin2
                    simp [boolsV, e]
                  have hp2i : (two[s] : Int) < (cs.length : Int) := by omega
                  clear e1 hin2 hc9
                  generalize two[s] = p2 at *
                  go_wp2_with fail
                  go_roundg (two.length - (s + 1))
                  case measure => omega
                  case rel => exact ⟨s + 1, by omega, by go_num, rfl⟩
                · obtain rfl : s = two.length := by omega
                  have hsi : ¬ (two.length : Int) < (two.length : Int) := by omega
                  go_wp2_with fail
                  go_roundg (al.length - (t + 1))
                  case measure => omega
                  case rel => exact ⟨t + 1, by omega, by go_num, hB9⟩
        · obtain rfl : t = al.length := by omega
          have hti : ¬ (al.length : Int) < (al.length : Int) := by omega
          rename World => wB
          have hIb := fun q (hq : q < inn.length) => show wB.cell? ⟨w5.heap.size, q, none⟩ = some (.bool inn[q]) by
            rw [hBi.cell (p := ⟨w5.heap.size, q, none⟩) hIlt, hIc q (by omega)]
            simp [boolsV]
          have hBe := hc_next hBw hBi
          go_wp2_with fail
          go_loopg [10, 14] cs.length (fun k m i wi => ∃ s : Nat, s + k = cs.length ∧ i = .int .i64 (s : Int) ∧ m = .int .i64 (((inn.take s).countP id : Nat) : Int) ∧ wi = wB)
          case atStart => exact ⟨0, by omega, rfl, by simp, rfl⟩
          case round =>
            obtain ⟨s, hs, rfl, rfl, hww⟩ := hrel
            subst hww
            have hcle := List.countP_le_length (p := id) (l := inn.take s)
            rw [List.length_take] at hcle
            by_cases hls : s < cs.length
            · have hsi : (s : Int) < (cs.length : Int) := by omega
              have hd := hIb s (by omega)
              clear hIb
              have HN : Hid ((inn.take (s + 1)).countP id = (inn.take s).countP id + (if inn[s]'(by omega) = true then 1 else 0)) := by
                show _ = _
                rw [List.take_succ_eq_append_getElem (by omega), List.countP_append]
                cases inn[s]'(by omega) <;> simp
              generalize inn[s]'(by omega) = bs at *
              cases bs
              · go_wp2_with fail
                go_roundg (cs.length - (s + 1))
                case measure => omega
                case rel => exact ⟨s + 1, by omega, by go_num, by rw [HN.out]; simp, rfl⟩
              · go_wp2_with fail
                go_roundg (cs.length - (s + 1))
                case measure => omega
                case rel => exact ⟨s + 1, by omega, by go_num, by rw [HN.out]; simp, rfl⟩
            · obtain rfl : s = cs.length := by omega
              have hsi : ¬ (cs.length : Int) < (cs.length : Int) := by omega
              have hct : (inn.take cs.length).countP id = inn.countP id := by rw [← hil, List.take_length]
              rw [hct] at *
              rcases HM.out with hm | hm
              · rw [hm]
                go_wp2_with fail
                go_ret
                exact ⟨rfl, hBe⟩
              · have hl0 : ((al.length : Int) == 0) = true := by rw [hm]; rfl
                generalize inn.countP id = n1 at *
                generalize al.length = n2 at *
                clear HM
                go_wp2_with fail
                all_goals
                  go_ret
                  refine ⟨?_, hBe⟩
                  first | rfl | (simp only [hl0]; done) | trace_state
end Go.Proofs.Ytoijdgklijdcfaa
