/-
  Ops to which something leads: the program's liveOf, SlimLive.
-/
import Derived.Test.YtlkbgmgnjkkfgaaDoorLvHas
import Derived.Test.YtlkbgmgnjkkfgaaDoorLvAll23
import Derived.Test.YtlkbgmgnjkkfgaaDoorLvAll3
import Derived.Deep.RegionHeld3
import Derived.Deep.Cut
namespace Go.Proofs.YtlkbgmgnjkkfgaaDoor
open Go.RowKit

abbrev opBox (d : Wd) : Obj := .cells #[.int .i64 d.tag, .int .i64 d.num] 37
theorem op_two {w : World} {g : Nat} {d : Wd} (h : w.heap[g]? = some (opBox d)) : w.cell? ⟨g, 0, none⟩ = some (.int .i64 d.tag) ∧ w.cell? ⟨g, 1, none⟩ = some (.int .i64 d.num) := ⟨cell_of_row _ _ 0 _ _ _ h, cell_of_row _ _ 1 _ _ _ h⟩
theorem lv_set4 {w : World} {k g : Nat} {m : Mks} {v0 v1 v2 v3 : Value} (h : MkAt w k m) (hn : k ≠ g) : MkAt ((((w.setCell ⟨g, 0, none⟩ v0).setCell ⟨g, 1, none⟩ v1).setCell ⟨g, 2, none⟩ v2).setCell ⟨g, 3, none⟩ v3) k m := by
  unfold MkAt at *
  rw [Below.heap_setCell _ _ _ _ hn, Below.heap_setCell _ _ _ _ hn, Below.heap_setCell _ _ _ _ hn, Below.heap_setCell _ _ _ _ hn]
  exact h
theorem lv_at {w : World} {lo : Nat} {l : List Nat} {v : Value} (h : w.ownsRow lo 3 1 v l.length (btV l)) : ∃ a cap, v = .slice a l.length cap ∧ ∀ j (hj : j < l.length), ∃ g, a = some ⟨g, 0, none⟩ ∧ w.cell? ⟨g, j, none⟩ = some (.int .i64 ((l[j] : Nat) : Int)) ∧ lo ≤ g ∧ g < w.heap.size := by
  have hx := h.1
  rcases h.2 with ⟨rfl, e⟩ | ⟨g, cap, cur, rfl, hg, hh, _⟩
  · exact ⟨none, 0, by rw [e], fun j hj => by omega⟩
  · refine ⟨_, cap, rfl, fun j hj => ⟨g, rfl, ?_, hg, (Array.getElem?_eq_some_iff.1 hh).1⟩⟩
    rw [(ow_cell h j (by rw [btV_length]; exact hj)).1]
    simp [btV]

set_option maxRecDepth 100000 in
set_option maxHeartbeats 4000000 in
theorem impl_liveOf (ops : List Wd) (hc : codeM ops = true) (w : World) (v : Value) (hv : Words w (· < w.heap.size) ops v) (hT : BitTab w) :
    Calls Tryd.prog 17 #[v] w fun r w' => ∃ m : Mks, r = .returned (.agg #[.int .u64 m.a, .int .u64 m.b, .int .u64 m.c, .int .u64 m.d]) ∧ m.places = liveL ops ∧ m.ok ∧ Below w.heap.size w w' := by
  obtain ⟨a, cap, rfl⟩ := hv.slice
  obtain ⟨hl1, hl2⟩ := code_len hc
  have KT : Hid (∀ w', Below w.heap.size w w' → BitTab w') := fun w' h => hT.keep h
  have HK : Hid (∀ (k : Nat) (hk : k < ops.length), ∃ b off, a = some ⟨b, off, none⟩ ∧ ∀ w', Below w.heap.size w w' → (w'.cell? ⟨b, off + k * 2, none⟩ = some (.int .i64 ops[k].tag) ∧ w'.cell? ⟨b, off + k * 2 + 1, none⟩ = some (.int .i64 ops[k].num))) := fun k hk => by
    obtain ⟨b, off, hS, he, hr⟩ := hv.at k hk
    exact ⟨b, off, by simpa using he, fun w' h => Wd.two (rw_same (h.block b hS) hr)⟩
  have e0 : MkAt (w.alloc (mkBox Mks.zero)) w.heap.size Mks.zero := heap_alloc_new w _
  have e1 : MkAt ((w.alloc (mkBox Mks.zero)).alloc (mkBox Mks.zero)) (w.heap.size + 1) Mks.zero := by
    have := heap_alloc_new (w.alloc (mkBox Mks.zero)) (mkBox Mks.zero)
    rw [show (w.alloc (mkBox Mks.zero)).heap.size = w.heap.size + 1 by simp] at this
    exact this
  have e2 := e0.keep (bt_new (w.alloc (mkBox Mks.zero)) (mkBox Mks.zero))
  have e3 : Below w.heap.size w ((w.alloc (mkBox Mks.zero)).alloc (mkBox Mks.zero)) := (bt_new w _).trans ((bt_new _ _).mono (by simp))
  have e4 : ((w.alloc (mkBox Mks.zero)).alloc (mkBox Mks.zero)).heap.size = w.heap.size + 2 := by simp
  have hA := impl_add Mks.zero ⟨by decide, by decide, by decide, by decide⟩ 0 (by omega) _ _ e1
  clear hv hT
  go_enter Tryd.func17, Tryd.ntmps17
  go_upto_region 3 with (go_at_call 26; refine hA.mono ?_; rintro r w2 ⟨rfl, hF2, hG2⟩)
  have hR2 : MkAt w2 w.heap.size Mks.zero := (hG2.block w.heap.size e2.lt (by simp)).trans e2
  have hB2 : Below w.heap.size w w2 := e3.grown hG2 (by omega) (fun k hk => by cases hk; omega)
  have hz2 : w.heap.size + 2 ≤ w2.heap.size := by have := hG2.size; omega
  clear hA e0 e1 e2 e3 e4 hG2
  have hR3 := hR2.keep (bt_new w2 (mkBox Mks.zero))
  have hF3 := hF2.keep (bt_new w2 (mkBox Mks.zero))
  have hg3 : MkAt (w2.alloc (mkBox Mks.zero)) w2.heap.size Mks.zero := heap_alloc_new w2 _
  have hB3 := hB2.alloc hB2.size (mkBox Mks.zero)
  go_wp2_with fail
  go_loopg [4] 256 (fun k p wr => ∃ (b m : Mks) (g : Nat), p = .pointer (some ⟨g, 0, none⟩) ∧ b.places.length + k = 256 ∧ w.heap.size + 2 ≤ g ∧ MkAt wr w.heap.size Mks.zero ∧ MkAt wr (w.heap.size + 1) m ∧ MkAt wr g b ∧ b.ok ∧ LvIn ops b m b.places ∧ Below w.heap.size w wr)
  case atStart => exact ⟨Mks.zero, Mks.zero.add 0, w2.heap.size, rfl, by rw [Mks.places_zero]; rfl, hz2, hR3, hF3, hg3, ⟨by decide, by decide, by decide, by decide⟩, by rw [Mks.places_zero]; exact LvIn.start, hB3⟩
  case round =>
    clear hR2 hF2 hB2 hz2 hR3 hF3 hg3 hB3
    obtain ⟨b, m, g, rfl, hk, hg, hR, hF, hb, hbo, hI, hB⟩ := hrel
    have c0 := hF.cell (i := 0) (by omega)
    have c1 := hF.cell (i := 1) (by omega)
    have c2 := hF.cell (i := 2) (by omega)
    have c3 := hF.cell (i := 3) (by omega)
    have d0 := hb.cell (i := 0) (by omega)
    have d1 := hb.cell (i := 1) (by omega)
    have d2 := hb.cell (i := 2) (by omega)
    have d3 := hb.cell (i := 3) (by omega)
    by_cases he : b = m
    · have hE := fun w' => bt_same b m he w'
      have hAll : Hid (m.places = liveL ops ∧ m.ok) := by
        subst he
        exact ⟨live_places hc (hI.all hc), hbo⟩
      clear hI hk hbo
      have r0 := hR.cell (i := 0) (by omega)
      have r1 := hR.cell (i := 1) (by omega)
      have r2 := hR.cell (i := 2) (by omega)
      have r3 := hR.cell (i := 3) (by omega)
      have f0 := hR.frozen 0
      have f1 := hR.frozen 1
      have f2 := hR.frozen 2
      have f3 := hR.frozen 3
      have hW : MkAt ((((wr.setCell ⟨w.heap.size, 0, none⟩ (.int .u64 (m.get 0 : Nat))).setCell ⟨w.heap.size, 1, none⟩ (.int .u64 (m.get 1 : Nat))).setCell ⟨w.heap.size, 2, none⟩ (.int .u64 (m.get 2 : Nat))).setCell ⟨w.heap.size, 3, none⟩ (.int .u64 (m.get 3 : Nat))) w.heap.size m := (((hR.set (by omega) _).set (by omega) _).set (by omega) _).set (by omega) _
      have hBW : Below w.heap.size w ((((wr.setCell ⟨w.heap.size, 0, none⟩ (.int .u64 (m.get 0 : Nat))).setCell ⟨w.heap.size, 1, none⟩ (.int .u64 (m.get 1 : Nat))).setCell ⟨w.heap.size, 2, none⟩ (.int .u64 (m.get 2 : Nat))).setCell ⟨w.heap.size, 3, none⟩ (.int .u64 (m.get 3 : Nat))) := (((hB.setCell (Nat.le_refl _) _).setCell (Nat.le_refl _) _).setCell (Nat.le_refl _) _).setCell (Nat.le_refl _) _
      clear he
      go_wp2_with fail
      generalize World.setCell _ _ _ = W5 at *
      have g0 := hW.cell (i := 0) (by omega)
      have g1 := hW.cell (i := 1) (by omega)
      have g2 := hW.cell (i := 2) (by omega)
      have g3 := hW.cell (i := 3) (by omega)
      refine bodyPost_ret (v := mkV m) (by simp [results, Tryd.results17, go_sem, g0, g1, g2, g3]; rfl) rfl ?_
      exact ⟨m, rfl, hAll.out.1, hAll.out.2, hBW⟩
    · have hE := fun w' => bt_diff b m he w'
      have hless := places_less hbo hI.ok hI.sub he
      have hmo := hI.ok
      have hmp := places_len m
      have hsnd : Hid (∀ p ∈ m.places, Live ops p) := fun p hp => hI.sound p (Mks.mem_places.1 hp).1 (Mks.mem_places.1 hp).2
      have hag := hI.again
      have f0 := hb.frozen 0
      have f1 := hb.frozen 1
      have f2 := hb.frozen 2
      have f3 := hb.frozen 3
      have hW : MkAt ((((wr.setCell ⟨g, 0, none⟩ (.int .u64 (m.get 0 : Nat))).setCell ⟨g, 1, none⟩ (.int .u64 (m.get 1 : Nat))).setCell ⟨g, 2, none⟩ (.int .u64 (m.get 2 : Nat))).setCell ⟨g, 3, none⟩ (.int .u64 (m.get 3 : Nat))) g m := (((hb.set (by omega) _).set (by omega) _).set (by omega) _).set (by omega) _
      have hBW : Below w.heap.size w ((((wr.setCell ⟨g, 0, none⟩ (.int .u64 (m.get 0 : Nat))).setCell ⟨g, 1, none⟩ (.int .u64 (m.get 1 : Nat))).setCell ⟨g, 2, none⟩ (.int .u64 (m.get 2 : Nat))).setCell ⟨g, 3, none⟩ (.int .u64 (m.get 3 : Nat))) := (((hB.setCell (by dsimp only; omega) _).setCell (by dsimp only; omega) _).setCell (by dsimp only; omega) _).setCell (by dsimp only; omega) _
      have hRW : MkAt ((((wr.setCell ⟨g, 0, none⟩ (.int .u64 (m.get 0 : Nat))).setCell ⟨g, 1, none⟩ (.int .u64 (m.get 1 : Nat))).setCell ⟨g, 2, none⟩ (.int .u64 (m.get 2 : Nat))).setCell ⟨g, 3, none⟩ (.int .u64 (m.get 3 : Nat))) w.heap.size Mks.zero := lv_set4 hR (by omega)
      have hFW : MkAt ((((wr.setCell ⟨g, 0, none⟩ (.int .u64 (m.get 0 : Nat))).setCell ⟨g, 1, none⟩ (.int .u64 (m.get 1 : Nat))).setCell ⟨g, 2, none⟩ (.int .u64 (m.get 2 : Nat))).setCell ⟨g, 3, none⟩ (.int .u64 (m.get 3 : Nat))) (w.heap.size + 1) m := lv_set4 hF (by omega)
      clear hI he hbo
      go_upto_region 6 with fail
      clear c0 c1 c2 c3 d0 d1 d2 d3 f0 f1 f2 f3 hR hF hb hB hE
      generalize World.setCell _ _ _ = W5 at *
      have hP := impl_places m hmo W5 g hW (KT.out W5 hBW)
      generalize hPP : m.places = P at *
      go_wp2_with (go_at_call 18; refine hP.mono ?_; rintro r w6 ⟨v6, rfl, hO6, hb6⟩; obtain ⟨pa, pcap, rfl, hpc⟩ := lv_at hO6)
      have hB6 := hBW.trans (hb6.mono hBW.size)
      have hR6 := hRW.keep hb6
      have hF6 := hFW.keep hb6
      have hg6 := hW.keep hb6
      have hz6 := hB6.size
      have hWz : w.heap.size + 2 ≤ W5.heap.size := by have := hW.lt; omega
      clear hP hO6 hb6 hBW hRW hFW hW
      go_loopg [16] P.length (fun k i wq => ∃ (t : Nat) (m2 : Mks), t + k = P.length ∧ i = .int .i64 t ∧ MkAt wq (w.heap.size + 1) m2 ∧ LvIn ops m m2 (P.take t) ∧ w6.grownBy wq (some (w.heap.size + 1)))
      case atStart => exact ⟨0, m, by omega, rfl, hF6, by simpa using hag, World.grownBy.refl _ _⟩
      case round =>
        clear hag
        rename World => wq
        obtain ⟨t, m2, ht, rfl, hF, hI, hG⟩ := hrel
        have hBq : Below w.heap.size w wq := hB6.grown hG hz6 (fun k hk => by cases hk; omega)
        have hzq := hBq.size
        have hRq : MkAt wq w.heap.size Mks.zero := (hG.block w.heap.size hR6.lt (by simp)).trans hR6
        have hgq : MkAt wq g m := (hG.block g hg6.lt (by simp; omega)).trans hg6
        by_cases hlt : t < P.length
        · have hti : (t : Int) < (P.length : Int) := by omega
          obtain ⟨pg, rfl, hpq, hp1, hp2⟩ := hpc t hlt
          have hpq' : wq.cell? ⟨pg, t, none⟩ = some (.int .i64 ((P[t] : Nat) : Int)) := by
            rw [World.cell?_of_block (hG.block pg hp2 (by simp; omega))]
            exact hpq
          have hlive := hsnd.out P[t] (List.getElem_mem hlt)
          have hpn := live_lt hc hlive
          have htk : P.take (t + 1) = P.take t ++ [P[t]] := List.take_succ_eq_append_getElem hlt
          have hst := hI.step hc hpn hlive
          rw [← htk] at hst
          have hput := hI.put hc hpn hlive
          have hkd := code_kind hc hpn
          have hnum := fun h => code_num hc hpn h
          have hnxt := fun h => live_next hc hlive h
          obtain ⟨b2, off, rfl, hcell⟩ := HK.out P[t] hpn
          obtain ⟨q0, q1⟩ := hcell wq hBq
          generalize P[t] = p at *
          have hpi : (p : Int) < (ops.length : Int) := by omega
          have hH := fun w' => impl_hasPlace ops[p] hkd w'
          generalize ops[p] = op at *
          have hox : (wq.alloc (opBox op)).heap[wq.heap.size]? = some (opBox op) := heap_alloc_new wq _
          have hFx := hF.keep (bt_new wq (opBox op))
          have hGx : w6.grownBy (wq.alloc (opBox op)) (some (w.heap.size + 1)) := ow_grown_trans hG (ow_but_below _ (bt_new wq _))
          have wn : IntKind.i64.wrap ((p : Int) + 1) = ((p + 1 : Nat) : Int) := by rw [bt_wr _ (by omega) (by omega)]; simp
          have hzx : w.heap.size + 1 < wq.heap.size := hF.lt
          clear hcell htk hpq hpc hRq hgq
          go_upto_region 10 with fail
          change Code.wp _ _ _ _ (wq.alloc (opBox op))
          generalize wq.alloc (opBox op) = W7 at *
          obtain ⟨x0, x1⟩ := op_two hox
          by_cases k10 : op.tag = 10
          · have hp10 : hasP op = true := by unfold hasP; rw [k10]; rfl
            have on10 : onP op = false := by unfold onP; rw [k10]; rfl
            obtain ⟨n0, n1⟩ := hnum hp10
            have hSM : Hid (stepM op p m2 = m2.add op.num.toNat) := by show _ = _; unfold stepM putM; rw [on10, hp10]; rfl
            rw [hSM.out] at hst
            rw [hp10] at hH
            have hA := impl_add m2 hI.ok op.num.toNat (by omega)
            rw [show ((op.num.toNat : Nat) : Int) = op.num by omega] at hA
            have t10 : (op.tag != 10) = false := by rw [k10]; rfl
            have hx3 : W7.heap.size = wq.heap.size + 1 ∨ True := Or.inr trivial
            clear hSM hp10 on10 hput hnum hnxt k10 hx3
            go_wp2_with (first
              | (go_at_call 27; refine (hH _).mono ?_; rintro r w8 ⟨rfl, hb8⟩; have hF8 := hFx.keep hb8; have ho8 := (hb8.block _ (Array.getElem?_eq_some_iff.1 hox).1).trans hox; have hG8 := ow_grown_trans hGx (ow_but_below _ hb8); clear x0 x1; (obtain ⟨x0, x1⟩ := op_two ho8))
              | (go_at_call 26; refine (hA _ _ hF8).mono ?_; rintro r w9 ⟨rfl, hF9, hg9⟩; have hG9 := ow_grown_trans hG8 hg9; have ho9 := (hg9.block _ (Array.getElem?_eq_some_iff.1 ho8).1 (by simp; omega)).trans ho8; clear x0 x1; (obtain ⟨x0, x1⟩ := op_two ho9)))
            go_roundg (P.length - (t + 1))
            case measure => omega
            case rel => exact ⟨t + 1, _, by omega, by go_num, hF9, hst, hG9⟩
          · have t10 : (op.tag != 10) = true := by simpa using k10
            by_cases k24 : op.tag = 24
            · have hp24 : hasP op = false := by unfold hasP; rw [k24]; rfl
              have on24 : onP op = false := by unfold onP; rw [k24]; rfl
              have hSM : Hid (stepM op p m2 = m2) := by show _ = _; unfold stepM putM; rw [on24, hp24]; rfl
              rw [hSM.out] at hst
              rw [hp24] at hH
              have t24 : (op.tag != 24) = false := by rw [k24]; rfl
              clear hSM hp24 on24 hput hnum hnxt k24 k10
              go_wp2_with (go_at_call 27; refine (hH _).mono ?_; rintro r w8 ⟨rfl, hb8⟩; have hF8 := hFx.keep hb8; have ho8 := (hb8.block _ (Array.getElem?_eq_some_iff.1 hox).1).trans hox; have hG8 := ow_grown_trans hGx (ow_but_below _ hb8); clear x0 x1; (obtain ⟨x0, x1⟩ := op_two ho8))
              go_roundg (P.length - (t + 1))
              case measure => omega
              case rel => exact ⟨t + 1, _, by omega, by go_num, hF8, hst, hG8⟩
            · have t24 : (op.tag != 24) = true := by simpa using k24
              have on1 : onP op = true := decide_eq_true ⟨k10, k24⟩
              have hn1 := hnxt on1
              clear hnxt k10 k24
              cases hp : hasP op
              · have hPM : Hid (putM op m2 = m2) := by show _ = _; unfold putM; rw [hp]; rfl
                have hSM : Hid (stepM op p m2 = m2.add (p + 1)) := by show _ = _; unfold stepM; rw [on1, hPM.out]; rfl
                rw [hSM.out] at hst
                rw [hp] at hH
                have hA := impl_add m2 hI.ok (p + 1) (by omega)
                clear hSM hPM hp on1 hput hnum
                go_wp2_with (first
                  | (go_at_call 27; refine (hH _).mono ?_; rintro r w8 ⟨rfl, hb8⟩; have hF8 := hFx.keep hb8; have ho8 := (hb8.block _ (Array.getElem?_eq_some_iff.1 hox).1).trans hox; have hG8 := ow_grown_trans hGx (ow_but_below _ hb8); clear x0 x1; (obtain ⟨x0, x1⟩ := op_two ho8))
                  | (go_at_call 26; refine (hA _ _ hF8).mono ?_; rintro r w9 ⟨rfl, hF9, hg9⟩; have hG9 := ow_grown_trans hG8 hg9))
                go_roundg (P.length - (t + 1))
                case measure => omega
                case rel => exact ⟨t + 1, _, by omega, by go_num, hF9, hst, hG9⟩
              · obtain ⟨n0, n1⟩ := hnum hp
                have hPM : Hid (putM op m2 = m2.add op.num.toNat) := by show _ = _; unfold putM; rw [hp]; rfl
                have hSM : Hid (stepM op p m2 = (m2.add op.num.toNat).add (p + 1)) := by show _ = _; unfold stepM; rw [on1, hPM.out]; rfl
                rw [hSM.out] at hst
                rw [hPM.out] at hput
                rw [hp] at hH
                have hA := impl_add m2 hI.ok op.num.toNat (by omega)
                rw [show ((op.num.toNat : Nat) : Int) = op.num by omega] at hA
                have hA2 := impl_add (m2.add op.num.toNat) hput.ok (p + 1) (by omega)
                clear hSM hPM hp on1 hput hnum
                go_upto_region 12 with (first
                  | (go_at_call 27; refine (hH _).mono ?_; rintro r w8 ⟨rfl, hb8⟩; have hF8 := hFx.keep hb8; have ho8 := (hb8.block _ (Array.getElem?_eq_some_iff.1 hox).1).trans hox; have hG8 := ow_grown_trans hGx (ow_but_below _ hb8); clear x0 x1; (obtain ⟨x0, x1⟩ := op_two ho8))
                  | (go_at_call 26; refine (hA _ _ hF8).mono ?_; rintro r w9 ⟨rfl, hF9, hg9⟩; have hG9 := ow_grown_trans hG8 hg9; have ho9 := (hg9.block _ (Array.getElem?_eq_some_iff.1 ho8).1 (by simp; omega)).trans ho8; clear x0 x1; (obtain ⟨x0, x1⟩ := op_two ho9)))
                go_wp2_with (go_at_call 26; refine (hA2 _ _ hF9).mono ?_; rintro r w10 ⟨rfl, hF10, hg10⟩; have hG10 := ow_grown_trans hG9 hg10)
                go_roundg (P.length - (t + 1))
                case measure => omega
                case rel => exact ⟨t + 1, _, by omega, by go_num, hF10, hst, hG10⟩
        · obtain rfl : t = P.length := by omega
          have hti : ¬ (P.length : Int) < (P.length : Int) := by omega
          rw [List.take_length] at hI
          have c0 := hgq.cell (i := 0) (by omega)
          have c1 := hgq.cell (i := 1) (by omega)
          have c2 := hgq.cell (i := 2) (by omega)
          have c3 := hgq.cell (i := 3) (by omega)
          have hbx := bt_new wq (mkBox m)
          clear hpc
          go_wp2_with fail
          go_roundg (256 - P.length)
          case measure => omega
          case rel => exact ⟨m, m2, wq.heap.size, rfl, by rw [hPP]; omega, by have := hgq.lt; omega, hRq.keep hbx, hF.keep hbx, heap_alloc_new wq (mkBox m), hmo, by rw [hPP]; exact hI, hBq.alloc hzq _⟩
end Go.Proofs.YtlkbgmgnjkkfgaaDoor

