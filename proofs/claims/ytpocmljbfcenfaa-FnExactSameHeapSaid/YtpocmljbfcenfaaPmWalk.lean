/-
  The program's SameHeap, of cells and words that are ok: the walk.
-/
import Derived.Test.YtpocmljbfcenfaaPmSet
import Derived.Test.YtpocmljbfcenfaaPmIn
import Derived.Test.YtpocmljbfcenfaaHoImplB
import Derived.Deep.Cut
namespace Go.Proofs.Ytpocmljbfcenfaa
open Go.RowKit Go.Maps Go.WideMaps

theorem zeroU (w : World) : (zeroValue 45).run Try.prog w = .ok (.agg #[]) w := by kernel_rfl
theorem PmW.pop {w0 w : World} {mb : Nat} {x y : List Ce} {d u : Wd} {S O : List Pw} {p : Pw} {vq vq' : Value} (h : PmW w0 w mb x y d u S (p :: O) vq) (hp : p ∈ S) (hq : QueP w w0.heap.size O vq') (ha : qBP vq' ≠ some mb) : PmW w0 w mb x y d u S O vq' :=
  ⟨h.map, hq, ha, h.low, h.inv.old hp, fun q hq => h.sub q (by
    rcases List.mem_append.1 hq with hq | hq
    · exact List.mem_append_left _ hq
    · exact List.mem_append_right _ (List.mem_cons_of_mem _ hq)), h.bel⟩

theorem QueP.lo {w : World} {B : Nat} {q : List Pw} {v : Value} (h : QueP w B q v) : ∀ k, qBP v = some k → B ≤ k := by
  obtain ⟨ao, cap, rfl, _, _, _, h4⟩ := h.ex
  intro k hk
  cases ao with
  | none => cases hk
  | some a =>
    have e : a.block = k := by simpa [qBP] using hk
    have := (h4 a rfl).1
    omega
theorem pmw_start {x y : List Ce} {d u : Wd} {w w5 : World} (hB : Below w.heap.size w w5) (hr : (⟨d, u⟩ : Pw) ∈ pairsL x y d u) :
    PmW w ((w5.alloc (.map #[] 0)).alloc (.cells #[.int .i64 d.tag, .int .i64 d.num, .int .i64 u.tag, .int .i64 u.num] 43)) w5.heap.size x y d u [] [⟨d, u⟩] (.slice (some ⟨w5.heap.size + 1, 0, none⟩) 1 1) := by
  have hz := hB.size
  have hz1 : (w5.alloc (.map #[] 0)).heap.size = w5.heap.size + 1 := World.size_alloc w5 _
  have hnew := heap_alloc_new (w5.alloc (.map #[] 0)) (.cells #[.int .i64 d.tag, .int .i64 d.num, .int .i64 u.tag, .int .i64 u.num] 43)
  rw [hz1] at hnew
  refine ⟨⟨.map [], (World.ownsMap_made w5 _ _ _).alloc _, SetIs.start⟩, ⟨some ⟨w5.heap.size + 1, 0, none⟩, 1, rfl, Nat.le_refl _, (by unfold maxLen; omega), (fun e => by cases e), fun a ha => ?_⟩, (by simp [qBP]), hz, PmInv.start, fun p hp => ?_, (hB.alloc hz _).alloc (by rw [hz1]; omega) _⟩
  · cases ha
    exact ⟨by show w.heap.size ≤ w5.heap.size + 1; omega, (Array.getElem?_eq_some_iff.1 hnew).1, fun _ => ⟨_, 0, _, rfl, hnew, by simp, fun i v hi => by simpa [Pw.cells] using hi⟩⟩
  · obtain rfl : p = ⟨d, u⟩ := by simpa using hp
    exact hr
theorem pm_b4 {w0 w w4 : World} {mb : Nat} (hl : w0.heap.size ≤ mb) (hb : Below w0.heap.size w0 w) (ht : w.mapTurned w4 mb) : Below w0.heap.size w0 w4 ∧ (∀ k, k < w.heap.size → k ≠ mb → w4.heap[k]? = w.heap[k]?) ∧ w.heap.size ≤ w4.heap.size := by
  have hG := ht.grown
  have hz := hb.size
  exact ⟨hb.trans { os := hG.os, tape := hG.tape, output := hG.output, size := hG.size, block := fun k hk => hG.block k (by omega) (fun e => by have := Option.some.inj e; omega) }, fun k hk hne => hG.block k hk (fun e => hne (Option.some.inj e)), hG.size⟩
theorem PmW.push {w0 w w4 w5 w6 : World} {mb : Nat} {x y : List Ce} {d u : Wd} {S O l : List Pw} {p : Pw} {vq vq' v6 : Value} {D : DataW Unit} (h : PmW w0 w mb x y d u S (p :: O) vq) (hset : SetIs D S) (hown : w.ownsMap Try.prog 43 unitElem mb S.length D) (ha : qBP vq' ≠ some mb) (hp : p ∉ S) (hf : p.fine) (hl : inner x y p = some l)
    (hown4 : w4.ownsMap Try.prog 43 unitElem mb (S.length + 1) (D.put (keyL p) (.agg []))) (ht : w.mapTurned w4 mb) (hb : Below w4.heap.size w4 w5) (hq5 : QueP w5 w0.heap.size O vq') (hP : PushP w5 w6 w0.heap.size O l vq' v6) : PmW w0 w6 mb x y d u (p :: S) (O ++ l) v6 := by
  obtain ⟨hb4, hk4, hz4⟩ := pm_b4 h.low h.bel ht
  have hlt := hown4.lt
  have hz5 := hb.size
  have h04 := hb4.size
  refine ⟨⟨_, ?_, hset.put hown hf⟩, hP.que, fun e => ?_, h.low, h.inv.step hp hl, fun q hq => ?_, ?_⟩
  · obtain ⟨es, clock, hbk, F, hs, hD⟩ := hown4
    exact ⟨es, clock, (hP.block mb (by omega) (fun e => ha e.symm)).trans ((hb.block mb hlt).trans hbk), F, hs, hD⟩
  · rcases hP.new mb e with e | e
    · exact ha e.symm
    · omega
  · have hpl : p ∈ pairsL x y d u := h.sub p (by simp)
    rcases List.mem_append.1 hq with hq | hq
    · rcases List.mem_cons.1 hq with rfl | hq
      · exact hpl
      · exact h.sub q (List.mem_append_left _ hq)
    · rcases List.mem_append.1 hq with hq | hq
      · exact h.sub q (List.mem_append_right _ (List.mem_cons_of_mem _ hq))
      · exact inner_in hl q hq
  · refine hb4.trans ((hb.mono h04).trans { os := hP.os, tape := hP.tape, output := hP.output, size := hP.size, block := fun k hk => hP.block k (by omega) (fun e => ?_) })
    have := hq5.lo k e.symm
    omega

set_option maxRecDepth 100000 in
set_option maxHeartbeats 4000000 in
theorem impl_same_yes (x y : List Ce) (d u : Wd) (hhx : heapM x = true) (hwx : wordP x.length d.tag d.num) (hhy : heapM y = true) (hwy : wordP y.length u.tag u.num) (vx vy : Value) (w : World) (hvx : Cells w (· < w.heap.size) x vx) (hvy : Cells w (· < w.heap.size) y vy) :
    Calls Try.prog 8 #[vx, .agg #[.int .i64 d.tag, .int .i64 d.num], vy, .agg #[.int .i64 u.tag, .int .i64 u.num]] w fun r w' => SameR (SameW x y d u) w w' r := by
  have hmm := @run_makeMap Try.prog
  obtain ⟨xa, xcap, rfl⟩ := hvx.slice
  obtain ⟨ya, ycap, rfl⟩ := hvy.slice
  obtain ⟨hx120, hxr⟩ := heap_refs hhx
  obtain ⟨hy120, hyr⟩ := heap_refs hhy
  have hkx := fun w' (hv' : Cells w' (· < w'.heap.size) x (.slice xa x.length xcap)) => impl_HeapOk x (by omega) _ w' hv'
  have hky := fun w' (hv' : Cells w' (· < w'.heap.size) y (.slice ya y.length ycap)) => impl_HeapOk y (by omega) _ w' hv'
  rw [hhx] at hkx
  rw [hhy] at hky
  have hWx := fun w' => impl_wordOk xa x.length xcap (by omega) d.tag d.num w'
  have hWy := fun w' => impl_wordOk ya y.length ycap (by omega) u.tag u.num w'
  rw [decide_eq_true hwx] at hWx
  rw [decide_eq_true hwy] at hWy
  have hfine : Hid (∀ p ∈ pairsL x y d u, Pfine x y p) := fun p hp => pair_fine hhx hhy hwx hwy hp
  have hroot : Hid ((⟨d, u⟩ : Pw) ∈ pairsL x y d u) := pairsL_mem.2 ⟨List.mem_cons_self, List.mem_cons_self⟩
  have hI := fun p (hp : Pfine x y p) w' hx' hy' => impl_within x y p hp.2.1 hp.2.2 w' (.slice xa x.length xcap) (.slice ya y.length ycap) hx' hy'
  have hM : (2 * x.length + 1) * (2 * y.length + 1) ≤ 241 * 241 := Nat.mul_le_mul (by omega) (by omega)
  have hlenM : Hid (∀ {wr : World} {mb : Nat} {S O : List Pw} {vq : Value}, PmW w wr mb x y d u S O vq → S.length ≤ (2 * x.length + 1) * (2 * y.length + 1)) := fun h => h.len
  have hsubM : Hid (∀ S : List Pw, S.Nodup → (∀ a ∈ S, a ∈ pairsL x y d u) → S.length ≤ (2 * x.length + 1) * (2 * y.length + 1)) := fun S h1 h2 => by rw [← pairsL_len x y d u]; exact nodup_sub _ _ h1 h2
  generalize (2 * x.length + 1) * (2 * y.length + 1) = M at *
  have hK : Hid (∀ w', Below ((w.alloc (wdBox d)).alloc (wdBox u)).heap.size ((w.alloc (wdBox d)).alloc (wdBox u)) w' → ((w'.cell? ⟨w.heap.size, 0, none⟩ = some (.int .i64 d.tag) ∧ w'.cell? ⟨w.heap.size, 1, none⟩ = some (.int .i64 d.num)) ∧ (w'.cell? ⟨w.heap.size + 1, 0, none⟩ = some (.int .i64 u.tag) ∧ w'.cell? ⟨w.heap.size + 1, 1, none⟩ = some (.int .i64 u.num))) ∧ (Cells w' (· < w'.heap.size) x (.slice xa x.length xcap) ∧ Cells w' (· < w'.heap.size) y (.slice ya y.length ycap)) ∧ Below w.heap.size w w') := sm_boxes hvx hvy
  have hcx : Hid (∀ w', Below w.heap.size w w' → Cells w' (· < w'.heap.size) x (.slice xa x.length xcap)) := fun w' h => hvx.keep h h.size
  have hcy : Hid (∀ w', Below w.heap.size w w' → Cells w' (· < w'.heap.size) y (.slice ya y.length ycap)) := fun w' h => hvy.keep h h.size
  clear hhx hwx hhy hwy hvx hvy hxr hyr
  go_enter Try.func8, Try.ntmps8
  go_upto_region 1 with fail
  change Code.wp _ _ _ _ ((w.alloc (wdBox d)).alloc (wdBox u))
  generalize (w.alloc (wdBox d)).alloc (wdBox u) = W1 at *
  have hr1 : Below W1.heap.size W1 W1 := Below.refl _ _
  obtain ⟨⟨⟨c0, c1⟩, ⟨c2, c3⟩⟩, _⟩ := hK.out W1 hr1
  go_upto_region 3 with (first
    | (go_at_call_of 14 xcap; refine (hkx _ (hK.out _ hr1).2.1.1).mono ?_; rintro r w2 ⟨rfl, hb2⟩; clear c0 c1 c2 c3; (obtain ⟨⟨⟨c0, c1⟩, ⟨c2, c3⟩⟩, _⟩ := hK.out w2 hb2))
    | (go_at_call_of 15 xcap; refine (hWx _).mono ?_; rintro r w3 ⟨rfl, hb3⟩; have hb13 := hc_next hb2 hb3; clear c0 c1 c2 c3; (obtain ⟨⟨⟨c0, c1⟩, ⟨c2, c3⟩⟩, _⟩ := hK.out w3 hb13))
    | (go_at_call_of 14 ycap; refine (hky _ (hK.out _ hb13).2.1.2).mono ?_; rintro r w4 ⟨rfl, hb4⟩; have hb14 := hc_next hb13 hb4; clear c0 c1 c2 c3; (obtain ⟨⟨⟨c0, c1⟩, ⟨c2, c3⟩⟩, _⟩ := hK.out w4 hb14))
    | (go_at_call_of 15 ycap; refine (hWy _).mono ?_; rintro r w5 ⟨rfl, hb5⟩; have hb15 := hc_next hb14 hb5; clear c0 c1 c2 c3; (obtain ⟨⟨⟨c0, c1⟩, ⟨c2, c3⟩⟩, _⟩ := hK.out w5 hb15)))
  have hB5 : Below w.heap.size w w5 := (hK.out w5 hb15).2.2
  have hB5z := hB5.size
  have c4 : Below w.heap.size w (w5.alloc (.map #[] 0)) := hB5.alloc hB5z _
  have e0 : (w5.alloc (.map #[] 0)).cell? ⟨w.heap.size, 0, none⟩ = some (.int .i64 d.tag) := ((bt_sm w5 _).cell (World.block_lt_of_cell? w5 _ c0)).trans c0
  have e1 : (w5.alloc (.map #[] 0)).cell? ⟨w.heap.size, 1, none⟩ = some (.int .i64 d.num) := ((bt_sm w5 _).cell (World.block_lt_of_cell? w5 _ c1)).trans c1
  have e2 : (w5.alloc (.map #[] 0)).cell? ⟨w.heap.size + 1, 0, none⟩ = some (.int .i64 u.tag) := ((bt_sm w5 _).cell (World.block_lt_of_cell? w5 _ c2)).trans c2
  have e3 : (w5.alloc (.map #[] 0)).cell? ⟨w.heap.size + 1, 1, none⟩ = some (.int .i64 u.num) := ((bt_sm w5 _).cell (World.block_lt_of_cell? w5 _ c3)).trans c3
  clear hb2 hb3 hb13 hb4 hb14 hb5 hb15 hK hr1 hkx hky hWx hWy
  go_wp2_with fail
  go_loopg [10] (3 * M + 1) (fun k vq wr => ∃ S O, k ≤ 3 * M + 1 ∧ k + 3 * S.length = 3 * M + O.length ∧ PmW w wr w5.heap.size x y d u S O vq)
  case atStart => exact ⟨[], [⟨d, u⟩], Nat.le_refl _, by simp, pmw_start hB5 hroot.out⟩
  case round =>
    clear c0 c1 c2 c3 c4 e0 e1 e2 e3 hmm
    obtain ⟨S, O, hkM, hk, hW⟩ := hrel
    have hSM := hlenM.out hW
    cases O with
    | nil =>
      obtain ⟨ao, cp, rfl, _⟩ := hW.que.ex
      have hyes : Hid (SameW x y d u ∧ Below w.heap.size w wr) := ⟨hW.inv.done, hW.bel⟩
      clear hW hSM hk
      go_wp2_with fail
      go_ret
      exact post_true rfl hyes.out.1 hyes.out.2
    | cons p O =>
      obtain ⟨ob, off, cp, rfl, hcp, hob, ⟨⟨f0, f1⟩, ⟨f2, f3⟩⟩, hnx⟩ := hW.que.first
      have hob2 : ob ≠ w5.heap.size := fun e => hW.apart (by rw [← e]; rfl)
      have hWW : Hid (PmW w wr w5.heap.size x y d u S (p :: O) (.slice (some ⟨ob, off, none⟩) (O.length + 1) cp)) := hW
      have hNN : Hid (∀ ao', (0 < cp - 1 → ao' = some ⟨ob, off + 4, none⟩) → (∃ o s, ao' = some ⟨ob, o, s⟩) → QueP wr w.heap.size O (.slice ao' O.length (cp - 1))) := hnx
      have hpf : Pfine x y p := hfine.out p (hW.sub p (by simp))
      clear hW hnx
      go_upto_region 8 with fail
      have hao : ∃ o sp, (if cp = 1 then (some ⟨ob, off, none⟩ : Option Addr) else some ⟨ob, off + 4, none⟩) = some ⟨ob, o, sp⟩ := by
        by_cases e : cp = 1
        · exact ⟨off, none, by rw [if_pos e]⟩
        · exact ⟨off + 4, none, by rw [if_neg e]⟩
      have hqv := hNN.out (if cp = 1 then some ⟨ob, off, none⟩ else some ⟨ob, off + 4, none⟩) (fun h => if_neg (by omega)) hao
      generalize (if cp = 1 then (some ⟨ob, off, none⟩ : Option Addr) else some ⟨ob, off + 4, none⟩) = ao' at hqv hao ⊢
      obtain ⟨o', sp', rfl⟩ := hao
      change Code.wp _ _ _ _ (wr.alloc (pwBox p))
      have hbx := heap_alloc_new wr (pwBox p)
      obtain ⟨⟨g0, g1⟩, ⟨g2, g3⟩⟩ := pw_box hbx
      have hb2 := bt_sm wr (pwBox p)
      have hbW : Hid (∀ o, (wr.alloc (pwBox p)).heap.size ≤ ((wr.alloc (pwBox p)).alloc o).heap.size ∧ ((wr.alloc (pwBox p)).alloc o).heap[wr.heap.size]? = some (pwBox p)) := fun o => ⟨(bt_sm _ o).size, ((bt_sm _ o).block wr.heap.size (by rw [World.size_alloc]; omega)).trans hbx⟩
      have hW2 : Hid (PmW w (wr.alloc (pwBox p)) w5.heap.size x y d u S (p :: O) (.slice (some ⟨ob, off, none⟩) (O.length + 1) cp)) := hWW.out.keep hb2
      have hq2 : Hid (QueP (wr.alloc (pwBox p)) w.heap.size O (.slice (some ⟨ob, o', sp'⟩) O.length (cp - 1))) := hqv.keep hb2
      have hap : Hid (qBP (.slice (some ⟨ob, o', sp'⟩) O.length (cp - 1)) ≠ some w5.heap.size) := fun e => hob2 (by simpa [qBP] using e)
      have hz2 : Hid ((wr.alloc (pwBox p)).heap.size = wr.heap.size + 1) := World.size_alloc wr _
      have hmbr : Hid (w5.heap.size < wr.heap.size) := by obtain ⟨D, h, _⟩ := hWW.out.map; exact h.lt
      generalize wr.alloc (pwBox p) = W2 at *
      generalize Value.slice (some ⟨ob, o', sp'⟩) O.length (cp - 1) = vq' at *
      obtain ⟨D, hown, hset⟩ := hW2.out.map
      have hkey : keyOf Try.prog 43 (.agg #[.int .i64 p.x.tag, .int .i64 p.x.num, .int .i64 p.y.tag, .int .i64 p.y.num]) = some (keyL p) := key_of hpf.1
      by_cases hs : p ∈ S
      · have hh : has D (keyL p) = true := hset.yes hpf.1 hs
        clear hb2 hbx hqv hNN hWW f0 f1 f2 f3
        go_wp2_with (at_lookup; refine wpList_lookup_own_unit _ rfl _ _ 41 rfl 43 45 pmKeyed Try.underlying41 (zeroU _) w5.heap.size S.length D rfl hown _ _ rfl hkey ?_)
        go_roundg (3 * M + O.length - 3 * S.length)
        case measure => simp at hk; omega
        case rel => exact ⟨S, O, by simp at hk; omega, by omega, (hW2.out.pop hs hq2.out hap.out).keep (bt_sm _ _)⟩
      · have hh : has D (keyL p) = false := hset.no hpf.1 hs
        obtain ⟨⟨m0, m1⟩, ⟨m2, m3⟩⟩ := pw_box (hbW.out (.cells #[] 45)).2
        have hbx4 : Hid (∀ {w3 w4 : World}, Below W2.heap.size W2 w3 → (∀ k, k < w3.heap.size → k ≠ w5.heap.size → w4.heap[k]? = w3.heap[k]?) → w4.heap[wr.heap.size]? = some (pwBox p)) := fun {w3 w4} h3 h4 => by
          have z2 := hz2.out
          have z3 := h3.size
          have zm := hmbr.out
          exact (h4 wr.heap.size (by omega) (by omega)).trans ((h3.block wr.heap.size (by omega)).trans hbx)
        have hS1 : Hid (S.length + 1 ≤ M) := hsubM.out (p :: S) (List.nodup_cons.2 ⟨hs, hW2.out.inv.nodup⟩) (fun a ha => hW2.out.sub a (by
          rcases List.mem_cons.1 ha with rfl | ha
          · simp
          · exact List.mem_append_left _ ha))
        cases hi : inner x y p with
        | none =>
          have HI0 : ∀ w' hx' hy', Calls Try.prog 16 #[.agg #[.int .i64 p.x.tag, .int .i64 p.x.num, .int .i64 p.y.tag, .int .i64 p.y.num], .slice xa x.length xcap, .slice ya y.length ycap] w' fun r w'' => ∃ v, r = .returned (.tuple #[v, .bool false]) ∧ Below w'.heap.size w' w'' := fun w' hx' hy' => (hI p hpf w' hx' hy').mono (by rintro r w'' ⟨v, rfl, _, hb⟩; exact ⟨v, by rw [hi]; rfl, hb⟩)
          have hno : Hid (¬ SameW x y d u) := hW2.out.inv.fail hi
          clear hb2 hbx hqv hNN hWW f0 f1 f2 f3 hI hi hbW
          go_wp2_with (first
            | (at_lookup; refine wpList_lookup_own_unit _ rfl _ _ 41 rfl 43 45 pmKeyed Try.underlying41 (zeroU _) w5.heap.size S.length D rfl hown _ _ rfl hkey ?_)
            | (at_mapUpdate; refine wpList_mapUpdate_in _ rfl _ _ _ 41 rfl 43 45 pmKeyed Try.underlying41 unitElem w5.heap.size S.length D rfl (hown.alloc _) (by unfold maxLen; omega) _ _ _ rfl rfl hkey (.agg []) [] unitElem_mk ?_; intro w4 hown4 hturn; (obtain ⟨hb4, hk4, hz4⟩ := pm_b4 (hW2.out.keep (bt_sm W2 (.cells #[] 45))).low (hW2.out.keep (bt_sm W2 (.cells #[] 45))).bel hturn); (obtain ⟨⟨k0, k1⟩, ⟨k2, k3⟩⟩ := pw_box (hbx4.out (bt_sm W2 (.cells #[] 45)) hk4)))
            | (go_at_call 16; refine (HI0 w4 (hcx.out _ hb4) (hcy.out _ hb4)).mono ?_; rintro r w6 ⟨v6, rfl, hb6⟩))
          go_ret
          exact post_false rfl hno.out (hb4.trans (hb6.mono hb4.size))
        | some l =>
          have hl2 := inner_len hi
          by_cases hl : l = []
          · subst hl
            have HI0 : ∀ w' hx' hy', Calls Try.prog 16 #[.agg #[.int .i64 p.x.tag, .int .i64 p.x.num, .int .i64 p.y.tag, .int .i64 p.y.num], .slice xa x.length xcap, .slice ya y.length ycap] w' fun r w'' => r = .returned (.tuple #[.slice none 0 0, .bool true]) ∧ Below w'.heap.size w' w'' := fun w' hx' hy' => (hI p hpf w' hx' hy').mono (by
              rintro r w'' ⟨v, rfl, hv, hb⟩
              rcases hv [] hi with ⟨_, rfl⟩ | ⟨h, _⟩
              · exact ⟨by rw [hi]; rfl, hb⟩
              · exact absurd rfl h)
            have hi' : Hid (inner x y p = some []) := hi
            clear hb2 hbx hqv hNN hWW f0 f1 f2 f3 hI hi hbW
            go_wp2_with (first
              | (at_lookup; refine wpList_lookup_own_unit _ rfl _ _ 41 rfl 43 45 pmKeyed Try.underlying41 (zeroU _) w5.heap.size S.length D rfl hown _ _ rfl hkey ?_)
              | (at_mapUpdate; refine wpList_mapUpdate_in _ rfl _ _ _ 41 rfl 43 45 pmKeyed Try.underlying41 unitElem w5.heap.size S.length D rfl (hown.alloc _) (by unfold maxLen; omega) _ _ _ rfl rfl hkey (.agg []) [] unitElem_mk ?_; intro w4 hown4 hturn; (obtain ⟨hb4, hk4, hz4⟩ := pm_b4 (hW2.out.keep (bt_sm W2 (.cells #[] 45))).low (hW2.out.keep (bt_sm W2 (.cells #[] 45))).bel hturn); (obtain ⟨⟨k0, k1⟩, ⟨k2, k3⟩⟩ := pw_box (hbx4.out (bt_sm W2 (.cells #[] 45)) hk4)))
              | (go_at_call 16; refine (HI0 w4 (hcx.out _ hb4) (hcy.out _ hb4)).mono ?_; rintro r w6 ⟨rfl, hb6⟩; (have hq6 : QueP w6 w.heap.size O vq' := ((hq2.out.keep (bt_sm W2 (.cells #[] 45))).same hz4 (fun k hk e => hk4 k hk (fun e2 => hap.out (by rw [← e, e2])))).keep hb6))
              | (at_builtin; refine wpList_queP_none _ rfl _ _ rfl hq6 rfl rfl ?_))
            go_roundg (3 * M + O.length - 3 * (S.length + 1))
            case measure => have := hS1.out; simp at hk; omega
            case rel =>
              have := hS1.out
              have hP : PushP w6 w6 w.heap.size O [] vq' vq' := ⟨rfl, rfl, rfl, Nat.le_refl _, fun _ _ _ => rfl, by simpa using hq6, fun k hk => Or.inl hk.symm⟩
              have hN := (hW2.out.keep (bt_sm W2 (.cells #[] 45))).push hset (hown.alloc _) hap.out hs hpf.1 hi'.out hown4 hturn hb6 hq6 hP
              rw [List.append_nil] at hN
              exact ⟨p :: S, O, by simp at hk; omega, by simp at hk ⊢; omega, hN⟩
          · have hl0 : 0 < l.length := List.length_pos_iff.2 hl
            have HI0 : ∀ w' hx' hy', Calls Try.prog 16 #[.agg #[.int .i64 p.x.tag, .int .i64 p.x.num, .int .i64 p.y.tag, .int .i64 p.y.num], .slice xa x.length xcap, .slice ya y.length ycap] w' fun r w'' => ∃ g, r = .returned (.tuple #[.slice (some ⟨g, 0, none⟩) l.length l.length, .bool true]) ∧ (∀ j u, (l.flatMap Pw.cells)[j]? = some u → w''.cell? ((⟨g, 0, none⟩ : Addr).add j) = some u) ∧ Below w'.heap.size w' w'' := fun w' hx' hy' => (hI p hpf w' hx' hy').mono (by
              rintro r w'' ⟨v, rfl, hv, hb⟩
              rcases hv l hi with ⟨h, _⟩ | ⟨_, g, rfl, _, _, hc⟩
              · exact absurd h hl
              · exact ⟨g, by rw [hi]; rfl, hc, hb⟩)
            have hi' : Hid (inner x y p = some l) := hi
            have hO9 : Hid (O.length ≤ 1000000) := by show _ ≤ _; simp at hk; omega
            clear hb2 hbx hqv hNN hWW f0 f1 f2 f3 hI hi hbW
            go_wp2_with (first
              | (at_lookup; refine wpList_lookup_own_unit _ rfl _ _ 41 rfl 43 45 pmKeyed Try.underlying41 (zeroU _) w5.heap.size S.length D rfl hown _ _ rfl hkey ?_)
              | (at_mapUpdate; refine wpList_mapUpdate_in _ rfl _ _ _ 41 rfl 43 45 pmKeyed Try.underlying41 unitElem w5.heap.size S.length D rfl (hown.alloc _) (by unfold maxLen; omega) _ _ _ rfl rfl hkey (.agg []) [] unitElem_mk ?_; intro w4 hown4 hturn; (obtain ⟨hb4, hk4, hz4⟩ := pm_b4 (hW2.out.keep (bt_sm W2 (.cells #[] 45))).low (hW2.out.keep (bt_sm W2 (.cells #[] 45))).bel hturn); (obtain ⟨⟨k0, k1⟩, ⟨k2, k3⟩⟩ := pw_box (hbx4.out (bt_sm W2 (.cells #[] 45)) hk4)))
              | (go_at_call 16; refine (HI0 w4 (hcx.out _ hb4) (hcy.out _ hb4)).mono ?_; rintro r w6 ⟨g, rfl, hc6, hb6⟩; (have hq6 : QueP w6 w.heap.size O vq' := ((hq2.out.keep (bt_sm W2 (.cells #[] 45))).same hz4 (fun k hk e => hk4 k hk (fun e2 => hap.out (by rw [← e, e2])))).keep hb6))
              | (at_builtin; refine wpList_queP _ rfl _ _ rfl hq6 (Nat.le_trans hb4.size hb6.size) rfl ⟨g, 0, none⟩ l.length rfl hc6 hl0 hl2 hO9.out ?_; intro v7 w7 hP))
            go_roundg (3 * M + O.length + l.length - 3 * (S.length + 1))
            case measure => have := hS1.out; simp at hk; omega
            case rel =>
              have := hS1.out
              have hN := (hW2.out.keep (bt_sm W2 (.cells #[] 45))).push hset (hown.alloc _) hap.out hs hpf.1 hi'.out hown4 hturn hb6 hq6 hP
              exact ⟨p :: S, O ++ l, by simp at hk; omega, by simp at hk ⊢; omega, hN⟩
end Go.Proofs.Ytpocmljbfcenfaa
