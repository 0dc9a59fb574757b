/-
  The specification's l6Ok.
-/
import Derived.Test.YtlkbgmgnjkkfgaaDoorCkRun
namespace Go.Proofs.YtlkbgmgnjkkfgaaDoor
open Go.RowKit

theorem fits_in {op : Wd} {size : Int} (h : fitsM op size = true) (hz : size ≤ 200) : (1 ≤ op.tag ∧ op.tag ≤ 24) ∧ 0 ≤ op.num ∧ op.num ≤ 1048576 := by
  obtain ⟨h1, h2, h3, h4⟩ := of_decide_eq_true h
  refine ⟨⟨h1, h2⟩, ?_, ?_⟩
  · unfold leastM at h3
    split at h3
    · omega
    · split at h3 <;> omega
  · unfold mostM at h4
    repeat' split at h4
    all_goals omega
/-- What is known of a place, and whether it was gone through. -/
theorem SW.known {w : World} {z g n cap : Nat} {ops : List Wd} {vl : Value} {C : Tb × Bool} (h : SW w z g ops vl C (.slice (some ⟨z, 0, none⟩) n cap)) {j : Nat} (hj : j < C.1.length) : w.cell? ⟨z, j * 3 + 2, none⟩ = some (.bool (C.1.getD j none).isSome) := by
  obtain ⟨tb, cp, e, _, _, _, hr, _⟩ := h.at hj
  obtain rfl : z = tb := by simp at e; exact e.1
  have h2 := hr 2
  have hg : C.1.getD j none = C.1[j] := by
    rw [List.getD_eq_getElem?_getD, List.getElem?_eq_getElem hj]
    rfl
  rw [hg]
  cases hc : C.1[j] with
  | none => rw [hc] at h2; exact h2 _ rfl
  | some s => rw [hc] at h2; exact h2 _ rfl
set_option maxRecDepth 100000 in
set_option maxHeartbeats 8000000 in
theorem spec_l6Ok (ops : List Wd) (hn : ops.length ≤ 1048576) (w : World) (v : Value) (hv : Words w (· < w.heap.size) ops v) :
    Calls Tryd.prog 13 #[v] w fun r w' => r = .returned (.bool (codeM ops)) ∧ Below w.heap.size w w' := by
  obtain ⟨a, cap, rfl⟩ := hv.slice
  have hV : Hid (Words w (· < w.heap.size) ops (.slice a ops.length cap)) := hv
  have hat := fun i hi => hv.at i hi
  have hat' : Hid (∀ i (hi : i < ops.length), ∃ b off, b < w.heap.size ∧ a = some ⟨b, off, none⟩ ∧ w.rangeAt b (off + i * 2) (Wd.cells ops[i])) := hat
  clear hv hat
  generalize hR : codeM ops = R
  go_enter Tryd.func13, Tryd.ntmps13
  go_wp2_with fail
  go_loopg [3] ops.length (fun k i wr => ∃ j : Nat, j + k = ops.length ∧ i = .int .i64 (j : Int) ∧ Hid (∀ m (hm : m < ops.length), m < j → fitsM ops[m] ops.length = true) ∧ Below w.heap.size w wr)
  case atStart => exact ⟨0, by omega, rfl, (fun m hm h => absurd h (by omega)), Below.refl _ _⟩
  case round =>
    obtain ⟨j, hj, rfl, hall, hb⟩ := hrel
    by_cases hlt : j < ops.length
    · obtain ⟨b, off, hbl, rfl, hr⟩ := hat'.out j hlt
      obtain ⟨d0, d1⟩ := Wd.two (rw_same (hb.block b hbl) hr)
      have hki : (j : Int) < (ops.length : Int) := by omega
      have hbw : b < wr.heap.size := by have := hb.size; omega
      have hF := fun w => spec_l6Fits ops[j] (ops.length : Int) (by omega) w
      have hwj : IntKind.i64.wrap ((j : Int) + 1) = (j : Int) + 1 := ck_wr _ (by omega) (by omega)
      cases hfj : fitsM ops[j] ops.length
      · obtain rfl : R = false := hR.symm.trans (codeM_bad ops j hlt hfj)
        clear hR
        rw [hfj] at hF
        generalize ops[j] = op at d0 d1 hF
        go_wp2_with (go_at_call 20; refine (hF _).mono ?_; rintro r w5 ⟨rfl, hb5⟩)
        go_ret
        exact ⟨rfl, hb.trans (hb5.mono hb.size)⟩
      · rw [hfj] at hF
        have hall2 : Hid (∀ m (hm : m < ops.length), m < j + 1 → fitsM ops[m] ops.length = true) := fun m hm h => by
          by_cases e : m = j
          · subst e; exact hfj
          · exact hall.out m hm (by omega)
        clear hfj
        generalize ops[j] = op at d0 d1 hF
        go_wp2_with (go_at_call 20; refine (hF _).mono ?_; rintro r w5 ⟨rfl, hb5⟩)
        go_roundg (ops.length - (j + 1))
        case measure => omega
        case rel => exact ⟨j + 1, by omega, by go_num, hall2, hb.trans (hb5.mono hb.size)⟩
    · obtain rfl : j = ops.length := by omega
      have hki : ¬ (ops.length : Int) < (ops.length : Int) := by omega
      have hI := fun w => ck_l1In (ops.length : Int) 1 200 w
      by_cases hl : 1 ≤ ops.length ∧ ops.length ≤ 200
      case neg =>
        obtain rfl : R = false := hR.symm.trans (codeM_len ops hl)
        rw [decide_eq_false (by omega)] at hI
        clear hR hl hall hat' hV
        go_wp2_with (go_at_call 21; refine (hI _).mono ?_; rintro r w5 ⟨rfl, rfl⟩)
        go_ret
        exact ⟨rfl, hb⟩
      rw [decide_eq_true (by omega)] at hI
      have hRR : R = runQ ops ops.length (startQ ops) := hR.symm.trans (codeM_fit ops hl (fun k hk => hall.out k hk hk))
      have hff : Hid (∀ k, k < ops.length → fitsM (ops.getD k op0) ops.length = true) := fun k hk => by rw [getD_at ops k hk]; exact hall.out k hk hk
      obtain ⟨hS0, hF0, hB0⟩ := sw_start wr ops _ (hV.out.keep hb hb.size) hl.2
      have hO0 : Hid (Outer ops 0 (comeM (List.replicate ops.length none, false) (0, ⟨0, 0⟩)) (List.replicate ops.length false)) := Outer.start hl.1
      have hmk1 := make_known ops.length hn
      have hmk2 := make_flags ops.length hn
      have hRH : Hid (R = runQ ops ops.length (startQ ops)) := hRR
      have hSH : Hid (SW _ _ _ _ _ _ _) := hS0
      have hFH : Hid (Flags _ _ _) := hF0
      have hBH : Hid (Below _ wr _) := hB0
      clear hall hat' hV hR hRR hS0 hF0 hB0
      go_wp2_with (first
        | (go_at_call 21; refine (hI _).mono ?_; rintro r w5 ⟨rfl, rfl⟩)
        | (go_at_call 22; refine (law_come ops (List.replicate ops.length none, false) 0 ⟨0, 0⟩ _ wr.heap.size (wr.heap.size + 1) _ _ hSH.out (by simp) 0 rfl).mono ?_; rintro r w3 ⟨rfl, hS3, hM3⟩))
      have hz3 : wr.heap.size + 2 < w3.heap.size := by have := hM3.size; simp at this; omega
      have hF3 : Flags w3 (wr.heap.size + 2) (List.replicate ops.length false) := hFH.out.keep (hM3.block _ (by simp) (by omega) (by simp [Value.ownBlock]))
      have hB3 : Below w.heap.size w w3 := hb.trans ((hBH.out.trans (hSH.out.below hM3)).mono hb.size)
      have hl3 : (comeM (List.replicate ops.length none, false) (0, ⟨0, 0⟩)).1.length = ops.length := (comeM_len _ _).trans (by simp)
      have hzw : w.heap.size ≤ wr.heap.size := hb.size
      clear hSH hFH hBH hM3 hmk1 hmk2 hI hb
      generalize comeM (List.replicate ops.length none, false) (0, ⟨0, 0⟩) = C0 at *
      generalize wr.heap.size = z at *
      go_loopg [6] ops.length (fun k i wo => ∃ (m : Nat) (C : Tb × Bool) (D : List Bool), m + k = ops.length ∧ i = .int .i64 (m : Int) ∧ SW wo z (z + 1) ops (.slice a ops.length cap) C (.slice (some ⟨z, 0, none⟩) ops.length ops.length) ∧ Flags wo (z + 2) D ∧ Hid (Outer ops m C D) ∧ z + 2 < wo.heap.size ∧ Below w.heap.size w wo)
      case atStart => exact ⟨0, C0, _, by omega, rfl, hS3, hF3, hO0, hz3, hB3⟩
      case round =>
        clear hS3 hF3 hO0 hz3 hB3 hl3
        obtain ⟨m, C, D, hm, rfl, hS, hF, hO, hz, hB⟩ := hrel
        by_cases hlt : m < ops.length
        · have hmi : (m : Int) < (ops.length : Int) := by omega
          have hwm : IntKind.i64.wrap ((m : Int) + 1) = (m : Int) + 1 := ck_wr _ (by omega) (by omega)
          have hI0 : Hid (Inner ops m 0 C D) := hO.out.inner
          rename World => wA
          go_wp2_with fail
          go_loopg [7] ops.length (fun k i wi => ∃ (j : Nat) (C : Tb × Bool) (D : List Bool), j + k = ops.length ∧ i = .int .i64 (j : Int) ∧ SW wi z (z + 1) ops (.slice a ops.length cap) C (.slice (some ⟨z, 0, none⟩) ops.length ops.length) ∧ Flags wi (z + 2) D ∧ Hid (Inner ops m j C D) ∧ z + 2 < wi.heap.size ∧ Below w.heap.size w wi)
          case atStart => exact ⟨0, C, D, by omega, rfl, hS, hF, hI0, hz, hB⟩
          case round =>
            clear hS hF hO hz hB hI0
            obtain ⟨j, C, D, hj, rfl, hS, hF, hI, hz, hB⟩ := hrel
            by_cases hlj : j < ops.length
            · have hji : (j : Int) < (ops.length : Int) := by omega
              have hwj : IntKind.i64.wrap ((j : Int) + 1) = (j : Int) + 1 := ck_wr _ (by omega) (by omega)
              have hlT := hI.out.inv.lenT
              have hlD := hI.out.inv.lenD
              obtain ⟨c0, c1, c2, cf⟩ := hS.cells
              cases hb : C.2
              · obtain ⟨T, bad⟩ := C
                simp only at hb
                subst hb
                simp only at c2 hlT
                have e2 := hS.known (j := j) (by show j < T.length; omega)
                obtain ⟨dz, df, _⟩ := hF.at (k := j) (by omega)
                have hti : (j : Int) < (D.length : Int) := by omega
                simp only at e2
                cases hT : T.getD j none with
                | none =>
                  have hI2 : Hid (Inner ops m (j + 1) (T, false) D) := hI.out.skip (Or.inl hT)
                  rw [hT] at e2
                  simp only [Option.isSome] at e2
                  clear hT
                  go_wp2_with fail
                  go_roundg (ops.length - (j + 1))
                  case measure => omega
                  case rel => exact ⟨j + 1, (T, false), D, by omega, by go_num, hS, hF, hI2, hz, hB⟩
                | some s =>
                  rw [hT] at e2
                  simp only [Option.isSome] at e2
                  cases hD : D[j]
                  · have hdn : ¬ dn D j := by
                      unfold dn
                      rw [List.getD_eq_getElem?_getD, List.getElem?_eq_getElem (by omega), hD]
                      simp
                    have hfit := fits_in (hff.out j hlj) (by omega)
                    have hI2 : Hid (Inner ops m (j + 1) (oneM ops (T, false) j s) (D.set j true)) := hI.out.one hT hdn (fun _ => hfit.2.1)
                    have hbd := (hI.out.inv.well rfl).bd j s hT
                    have hcd := cntD_le D
                    rw [hD] at dz
                    have hzz : (wr.setCell ⟨z + 2, j, none⟩ (.bool true)).heap.size = wr.heap.size := by simp [World.setCell]
                    have hkk : ∀ i, i ≠ z + 2 → (wr.setCell ⟨z + 2, j, none⟩ (.bool true)).heap[i]? = wr.heap[i]? := fun i hi => Below.heap_setCell _ _ _ _ hi
                    have hS2 : Hid (SW (wr.setCell ⟨z + 2, j, none⟩ (.bool true)) z (z + 1) ops (.slice a ops.length cap) (T, false) (.slice (some ⟨z, 0, none⟩) ops.length ops.length)) := hS.same fun i hi hc => hkk i (by
                      rcases hc with e | e | e
                      · omega
                      · omega
                      · simp [Value.ownBlock] at e; omega)
                    have hB2 : Hid (Below w.heap.size w (wr.setCell ⟨z + 2, j, none⟩ (.bool true))) := hB.setCell (by show w.heap.size ≤ z + 2; omega) _
                    have hF2 : Hid (Flags (wr.setCell ⟨z + 2, j, none⟩ (.bool true)) (z + 2) (D.set j true)) := hF.set j
                    have hTH : Hid (T.getD j none = some s) := hT
                    have hDL : Hid (D.length = ops.length) := hlD
                    have hn1 : 0 ≤ s.n ∧ s.n ≤ 1000 := by omega
                    have hn2 : s.v ≤ 1000 := by omega
                    clear hD hT hbd hdn hI hS hF hcd hkk
                    go_wp2_with (go_at_call 23; refine (law_one ops (T, false) j s _ z (z + 1) _ _ hS2.out hlT hTH.out hlj hl.2 hn1 hn2 hfit.1 hfit.2 rfl).mono ?_; rintro r w7 ⟨rfl, hS7, hM7⟩)
                    go_roundg (ops.length - (j + 1))
                    case measure => omega
                    case rel => exact ⟨j + 1, _, _, by omega, by go_num, hS7, hF2.out.keep (hM7.block _ (by omega) (by omega) (by simp [Value.ownBlock])), hI2, by have := hM7.size; omega, hB2.out.trans ((hS2.out.below hM7).mono hzw)⟩
                  · have hI2 : Hid (Inner ops m (j + 1) (T, false) D) := hI.out.skip (Or.inr (by
                      unfold dn
                      rw [List.getD_eq_getElem?_getD, List.getElem?_eq_getElem (by omega), hD]
                      rfl))
                    rw [hD] at dz
                    clear hT hD
                    go_wp2_with fail
                    go_roundg (ops.length - (j + 1))
                    case measure => omega
                    case rel => exact ⟨j + 1, (T, false), D, by omega, by go_num, hS, hF, hI2, hz, hB⟩
              · rw [hb] at c2
                have HO : Hid (Outer ops (m + 1) C D) := hI.out.bad hb
                clear hb
                go_wp2_with fail
                go_roundg (ops.length - (m + 1))
                case measure => omega
                case rel => exact ⟨m + 1, C, D, by omega, by go_num, hS, hF, HO, hz, hB⟩
            · obtain rfl : j = ops.length := by omega
              have hji : ¬ (ops.length : Int) < (ops.length : Int) := by omega
              have HO : Hid (Outer ops (m + 1) C D) := hI.out.outer
              go_wp2_with fail
              go_roundg (ops.length - (m + 1))
              case measure => omega
              case rel => exact ⟨m + 1, C, D, by omega, by go_num, hS, hF, HO, hz, hB⟩
        · obtain rfl : m = ops.length := by omega
          have hmi : ¬ (ops.length : Int) < (ops.length : Int) := by omega
          have hA := (hO.out.answer hl.1).trans hRH.out.symm
          obtain ⟨c0, c1, c2, cf⟩ := hS.cells
          have hAH : Hid ((!C.2) = R) := hA
          clear hA hS hF
          generalize C.2 = bad at *
          go_wp2_with fail
          go_ret
          exact ⟨congrArg (fun b => Ending.returned (.bool b)) hAH.out, hB⟩
end Go.Proofs.YtlkbgmgnjkkfgaaDoor

