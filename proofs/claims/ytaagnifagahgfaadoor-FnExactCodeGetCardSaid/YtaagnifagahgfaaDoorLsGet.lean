/-
  The specification's CodeGet.
-/
import Derived.Test.YtaagnifagahgfaaDoorLsGetA
import Derived.Deep.RegionHeld3
import Derived.Deep.CutRange
namespace Go.Proofs.YtaagnifagahgfaaDoor
open Go.RowKit

theorem cv_1 {w : World} {o : Obj} : (w.alloc o).drew.heap[w.heap.size]? = some o := heap_alloc_new w o
theorem cv_2 {w : World} {a o : Obj} : ((w.alloc a).alloc o).drew.heap[w.heap.size + 1]? = some o := by
  have := heap_alloc_new (w.alloc a) o
  rw [World.size_alloc] at this
  exact this
theorem cv_3 {w : World} {o o2 : Obj} : ((w.alloc o).alloc o2).drew.heap[w.heap.size]? = some o := (((Below.refl (w.alloc o).heap.size (w.alloc o)).alloc (Nat.le_refl _) o2).block _ (by simp)).trans (heap_alloc_new w o)
theorem nb_1 {w : World} {a o : Obj} : ((w.alloc a).alloc o).drew.heap[w.heap.size + 1]? = some o ∧ Below w.heap.size w ((w.alloc a).alloc o).drew := ⟨cv_2, (((Below.refl _ w).alloc (Nat.le_refl _) a).alloc (by simp) o).drew⟩
theorem nb_2 {w : World} {a o : Obj} : ((w.alloc o).alloc a).drew.heap[w.heap.size]? = some o ∧ Below w.heap.size w ((w.alloc o).alloc a).drew := ⟨cv_3, (((Below.refl _ w).alloc (Nat.le_refl _) o).alloc (by simp) a).drew⟩

set_option maxRecDepth 100000 in
set_option maxHeartbeats 4000000 in
theorem spec_CodeGet (l : List UInt8) (hl : l.length ≤ 1048576) (w : World) :
    Calls Tryd.prog 4 #[.string (bx l)] w fun r w' => GotOps w w' (getM l) r := by
  by_cases h0 : l.length = 0
  · have hl0 : l = [] := List.length_eq_zero_iff.1 h0
    subst hl0
    rw [get_none (fun X h1 h2 _ => codeM_ne h1 (code_nil h2))]
    show Calls Tryd.prog 4 #[.string ⟨#[]⟩] w _
    go_enter Tryd.func4, Tryd.ntmps4
    go_wp2_with fail
    exact bodyPost_ret (results_tmp2 rfl _ _ _) rfl ⟨rfl, Below.refl _ _⟩
  obtain ⟨n, hn⟩ : ∃ n, l.length = n + 1 := ⟨l.length - 1, by omega⟩
  obtain ⟨t, hsz, hHat, hHex, hW, e⟩ : ∃ t : ByteArray, t.size = l.length ∧ Hid (∀ i (h : i < l.length) (h' : i < t.size), t[i]'h' = l[i]) ∧ Hid (t.extract 0 n = bx (l.take n)) ∧ Hid (t.toList = l) ∧ bx l = t := ⟨bx l, bx_size l, fun i _ h' => byte_at l i h', bx_front l n, bx_toList l, rfl⟩
  rw [e]
  clear e
  have hq0 : (t.toList == []) = false := by
    rw [hW.out]
    simpa using fun h => h0 (by rw [h]; rfl)
  have hnt : n < t.size := by omega
  have hby : t[n]'hnt = l[n]'(by omega) := hHat.out n (by omega) hnt
  have wr0 : IntKind.i64.wrap ((l.length : Int) - 1) = (n : Int) := by rw [hn]; exact (ck_wr _ (by omega) (by omega)).trans (by omega)
  by_cases h10 : l[n]'(by omega) = 10
  case neg =>
    have hG : getM l = none := get_none (fun X h1 h2 _ => by
      have := code_last (codeM_ne h1)
      rw [h2, List.getLast?_eq_getElem?, show l.length - 1 = n by omega, List.getElem?_eq_getElem (by omega)] at this
      exact h10 (Option.some.inj this))
    rw [hG]
    have hq1 : ¬ ((t[n]'hnt).toNat : Int) = 10 := by
      rw [hby]
      intro e
      exact h10 (UInt8.toNat_inj.1 (by have h9 : ((10 : UInt8).toNat) = 10 := rfl; omega))
    have hq2 : ¬ (t[n]'hnt).toNat = 10 := by omega
    have hq3 : (((t[n]'hnt).toNat : Int) == 10) = false := by simpa using hq1
    clear hby h10
    go_enter Tryd.func4, Tryd.ntmps4
    go_wp2_with fail
    exact bodyPost_ret (results_tmp2 rfl _ _ _) rfl ⟨rfl, Below.refl _ _⟩
  have hq1 : ((t[n]'hnt).toNat : Int) = 10 := by rw [hby, h10]; rfl
  by_cases h24 : 2400 < l.length
  · have hG : getM l = none := get_none (fun X h1 h2 h3 => by omega)
    rw [hG]
    have h24i : (2400 : Int) < (l.length : Int) := by omega
    clear hby h10
    go_enter Tryd.func4, Tryd.ntmps4
    go_wp2_with fail
    exact bodyPost_ret (results_tmp2 rfl _ _ _) rfl ⟨rfl, Below.refl _ _⟩
  have h24i : ¬ (2400 : Int) < (l.length : Int) := by omega
  have hCu : Hid (∀ w, Calls Tryd.prog 9 #[.string (t.extract 0 n), .int .u8 10, .int .i64 ((n : Int) + 1)] w fun r w' => (∃ v, r = .returned v ∧ w'.ownsRow w.heap.size 9 1 v (linesS l).length (strsV (linesS l))) ∧ Below w.heap.size w w') := fun w => by
    rw [hHex.out]
    have := spec_l1Cut (l.take n) 10 l.length (by rw [List.length_take]; omega) (by omega) w
    rw [show ((n : Int) + 1) = ((l.length : Nat) : Int) by omega]
    rw [show l.take n = l.take (l.length - 1) by rw [hn]; rfl] at this ⊢
    exact this
  have hn0 : (0 : Int) ≤ (n : Int) := by omega
  have hnl : (n : Int) ≤ (n : Int) + 1 := by omega
  have hnN : n ≤ n + 1 := by omega
  have hsz1 : t.size = n + 1 := by omega
  have hlb := (cutG_len 10 l.length (l.take (l.length - 1))).1
  generalize hG : getM l = G
  have HG : Hid (getM l = G) := hG
  have hq4 : (((t[n]'hnt).toNat : Int) != 10) = false := by rw [hq1]; rfl
  have h24n : ¬ (2400 : Int) < (n : Int) + 1 := by omega
  have HN : Hid (l.length = n + 1) := hn
  clear hG hby h10 hsz hn h0 wr0 h24 h24i
  go_enter Tryd.func4, Tryd.ntmps4
  go_upto_region 4 with (go_at_call 9; refine (hCu.out _).mono ?_; rintro r w2 ⟨⟨v4, rfl, hr4⟩, hb2⟩)
  have hz2 := hb2.size
  have hop : (w2.alloc (.cells #[] 33)).ownsRow w2.heap.size 33 2 (.slice (some ⟨w2.heap.size, 0, none⟩) 0 0) 0 [] := World.ownsRow_made w2 #[] 0 (Nat.le_refl _) (Nat.zero_le _) rfl
  obtain ⟨g4, cap4, rfl, hg4, hg4s, hc4⟩ := row_strs hr4 hlb
  have HC4 : Hid (∀ j (hj : j < (linesS l).length), w2.cell? ⟨g4, j, none⟩ = some (.string (bx (linesS l)[j]))) := hc4
  have hNl := lines_len l
  have hLs : Hid (∀ k (hk : k < (linesS l).length), ((linesS l)[k]).length ≤ l.length) := fun k hk => line_short hk
  have hlb2 : 1 ≤ (linesS l).length := hlb
  have h24N : Hid (l.length ≤ 2400) := by
    show _ ≤ _
    rw [HN.out]
    omega
  have hN5 : (linesS l).length ≤ 2401 := Nat.le_trans hNl (by have := h24N.out; omega)
  clear hr4 hc4 hlb hNl
  go_wp2_with fail
  go_loopg [5, 6] (linesS l).length (fun m ops i wr => ∃ (k : Nat) (Y : List Wd), k + m = (linesS l).length ∧ i = .int .i64 (k : Int) ∧ Y.length = k ∧ Hid (∀ j (hj : j < Y.length) (hj' : j < (linesS l).length), Reads (linesS l)[j] Y[j]) ∧ wr.ownsRow w2.heap.size 33 2 ops k (Y.flatMap Wd.cells) ∧ Below w2.heap.size w2 wr)
  case atStart => exact ⟨0, [], by omega, rfl, rfl, (fun j hj => absurd hj (Nat.not_lt_zero _)), hop, (Below.refl _ _).alloc (Nat.le_refl _) _⟩
  case round =>
    obtain ⟨k, Y, hk, rfl, hYl, hYr, hrow, hbr⟩ := hrel
    have hzr := hbr.size
    obtain ⟨va, vc, rfl⟩ := own_slice hrow
    by_cases hlt : k < (linesS l).length
    · have hki : (k : Int) < ((linesS l).length : Int) := by omega
      have c4 : wr.cell? ⟨g4, k, none⟩ = some (.string (bx (linesS l)[k])) := (World.cell?_of_block (a := ⟨g4, k, none⟩) (hbr.block g4 hg4s)).trans (HC4.out k hlt)
      have hll := hLs.out k hlt
      have hnr : Hid ((∀ op, ¬ Reads (linesS l)[k] op) → G = none) := fun h => by rw [← HG.out]; exact not_reads hlt h
      have hyes : Hid (∀ op, Reads (linesS l)[k] op → ∀ j (hj : j < (Y ++ [op]).length) (hj' : j < (linesS l).length), Reads (linesS l)[j] (Y ++ [op])[j]) := fun op ho j hj hj' => by
        by_cases e : j < Y.length
        · rw [List.getElem_append_left e]
          exact hYr.out j e hj'
        · have e2 : j = k := by simp at hj; omega
          subst e2
          rw [List.getElem_append_right (by omega)]
          simpa using ho
      have hC7 : Hid (∀ w, Calls Tryd.prog 9 #[.string (bx (linesS l)[k]), .int .u8 32, .int .i64 2] w fun r w' => (∃ v, r = .returned v ∧ w'.ownsRow w.heap.size 9 1 v (cutG 32 2 (linesS l)[k]).length (strsV (cutG 32 2 (linesS l)[k]))) ∧ Below w.heap.size w w') := fun w => spec_l1Cut (linesS l)[k] 32 2 (by have := h24N.out; omega) (by omega) w
      have hc0 := (cutG_len 32 2 (linesS l)[k]).1
      have hcE : Hid (∀ p ∈ cutG 32 2 (linesS l)[k], p.length ≤ 2400) := fun p hp => Nat.le_trans (cutG_each 32 2 _ p hp) (by have := h24N.out; omega)
      obtain ⟨C, hC⟩ : ∃ C, cutG 32 2 (linesS l)[k] = C := ⟨_, rfl⟩
      have HCC : Hid (cutG 32 2 (linesS l)[k] = C) := hC
      rw [hC] at hC7 hc0 hcE
      clear hC hll
      generalize hbl : bx (linesS l)[k] = tl at c4 hC7
      clear hbl
      go_upto_region 9 with (go_at_call 9; refine (hC7.out _).mono ?_; rintro r w3 ⟨⟨v7, rfl, hr7⟩, hb3⟩)
      obtain ⟨g7, cap7, rfl, hg7, hg7s, hc7⟩ := row_strs hr7 hc0
      have HC7 : Hid (∀ j (hj : j < C.length), w3.cell? ⟨g7, j, none⟩ = some (.string (bx C[j]))) := hc7
      have hz3 := hb3.size
      have c7 := hc7 0 hc0
      have hFi : Hid (∀ (w : World) (g : Nat) (T : TypeId) (fr : Nat × Nat), w.heap[g]? = some (.cells codeVals0 T fr) → Calls Tryd.prog 10 #[.slice (some ⟨g, 0, none⟩) 25 25, .string (bx (C[0]'hc0))] w fun r w' => (∃ n : Int, r = .returned (.int .i64 n) ∧ FindP (C[0]'hc0) n) ∧ w = w') := fun w g T fr h => spec_l1Find (C[0]'hc0) w g T fr h
      have hWo : Hid (∀ w, Calls Tryd.prog 11 #[] w fun r w' => r = .returned (.slice (some ⟨w.heap.size, 0, none⟩) 25 25) ∧ w' = w.alloc (.cells codeVals0 9)) := fun w => spec_l6Words w
      generalize codeVals0 = CV at hFi hWo
      generalize htw : bx (C[0]'hc0) = tw at c7 hFi
      clear htw hr7 hc7
      go_cut [8] from 33 to 78 (fun s8 wc => ∃ (x : Int) (b : Nat), s8 = .pointer (some ⟨b, 0, none⟩) ∧ w3.heap.size ≤ b ∧ FindP (C[0]'hc0) x ∧ wc.heap[b]? = some (.cells #[.int .i64 x, .int .i64 0] 33) ∧ Below w3.heap.size w3 wc)
      case first =>
        clear HG HN HC4 hLs h24N hnr hyes hC7 HCC hcE hop hrow hYr hYl c4 hCu hW hHex hHat hb2 hb3 hbr hki
        go_region_with (first | (go_at_call 11; refine (hWo.out _).mono ?_; rintro e w4 ⟨rfl, rfl⟩) | (go_at_call 10; refine (hFi.out _ _ _ _ (by first | exact cv_1 | exact cv_2 | exact cv_3)).mono ?_; rintro e w5 ⟨⟨x, rfl, hF⟩, rfl⟩))
        all_goals
          go_wp2_with fail
          go_meet
          case rel =>
            first
              | exact ⟨x, _, rfl, Nat.le_succ _, hF, nb_1.1, nb_1.2⟩
              | exact ⟨x, _, rfl, Nat.le_refl _, hF, nb_2.1, nb_2.2⟩
      case rest =>
        obtain ⟨x, b, rfl, hb, hF, hbox, hbc⟩ := hcut
        have hbwc : Below wr.heap.size wr wc := hb3.trans (hbc.mono hz3)
        have hb2c : Below w2.heap.size w2 wc := hbr.trans (hbwc.mono hzr)
        have hbw : Below w.heap.size w wc := hb2.trans (hb2c.mono hz2)
        have hown := ow_keep hrow hbwc
        have hbwcS : Hid (Below wr.heap.size wr wc) := hbwc
        have hrowS : Hid (wr.ownsRow w2.heap.size 33 2 (.slice va k vc) k (Y.flatMap Wd.cells)) := hrow
        have k0 : wc.cell? ⟨b, 0, none⟩ = some (.int .i64 x) := by rw [cell_of_row _ _ _ _ _ _ hbox]; rfl
        have k1 : wc.cell? ⟨b, 1, none⟩ = some (.int .i64 0) := by rw [cell_of_row _ _ _ _ _ _ hbox]; rfl
        have f1 : wc.frozen? ⟨b, 1, none⟩ = false := by unfold World.frozen?; rw [hbox]; simp
        have hC3 := (cutG_len 32 2 (linesS l)[k]).2.1
        rw [HCC.out] at hC3
        have hbad : Hid ((∀ op, Reads (linesS l)[k] op → False) → G = none) := fun h => hnr.out h
        have hxn := find_bd hF
        have htag : Hid (∀ op, Reads (linesS l)[k] op → x = op.tag ∧ ((hasM op.tag = false ∧ C.length = 1) ∨ (hasM op.tag = true ∧ C.length = 2))) := fun op h => ⟨rd_tag HCC.out hc0 hF h, rd_len HCC.out h⟩
        have h1r : Hid (1 ≤ x → C.length = 1 → hasM x = false → Reads (linesS l)[k] ⟨x, 0⟩) := fun a b c => rd_make1 HCC.out hc0 hF a b c
        have h2r : Hid (1 ≤ x → (h2 : C.length = 2) → hasM x = true → Reads (linesS l)[k] ⟨x, numM (C[1]'(by omega))⟩) := fun a b c => rd_make2 HCC.out hc0 hF a b c
        clear hbox hnr hC7 hWo hFi c7 hrow hbwc hF HCC c4 hki HC4 hCu hHex hHat hW HN hLs hYr hop hb2 hbr
        by_cases x1 : x < 1
        · have hbad' : Hid (G = none) := hbad.out fun op h => by
            have h1 := (htag.out op h).1
            have h2 := h.kind.1
            omega
          clear hbad htag h1r h2r hyes
          go_wp2_with fail
          exact bodyPost_ret (results_tmp2 rfl _ _ _) rfl (by rw [hbad'.out]; exact ⟨rfl, hbw⟩)
        by_cases hc3 : 2 < C.length
        · have hc3i : (2 : Int) < (C.length : Int) := by omega
          have hbad' : Hid (G = none) := hbad.out fun op h => by
            rcases (htag.out op h).2 with ⟨_, h⟩ | ⟨_, h⟩ <;> omega
          clear hbad htag h1r h2r hyes
          go_wp2_with fail
          exact bodyPost_ret (results_tmp2 rfl _ _ _) rfl (by rw [hbad'.out]; exact ⟨rfl, hbw⟩)
        have hc3i : ¬ (2 : Int) < (C.length : Int) := by omega
        have hH : ∀ w', Calls Tryd.prog 12 #[.int .i64 x] w' fun r w2 => r = .returned (.bool (hasM x)) ∧ w' = w2 := fun w' => spec_l6Has x ⟨by omega, hxn.2⟩ w'
        cases hm : hasM x with
        | false =>
          rw [hm] at hH
          by_cases hc2 : C.length = 2
          · have hc2i : (C.length : Int) = 2 := by omega
            have hbad' : Hid (G = none) := hbad.out fun op h => by
              obtain ⟨e, h⟩ := htag.out op h
              rcases h with ⟨_, h⟩ | ⟨h', h⟩
              · omega
              · rw [← e, hm] at h'
                cases h'
            clear hbad htag h1r h2r hyes hm
            go_wp2_with (go_at_call 12; refine (hH _).mono ?_; rintro r w5 ⟨rfl, rfl⟩)
            exact bodyPost_ret (results_tmp2 rfl _ _ _) rfl (by rw [hbad'.out]; exact ⟨rfl, hbw⟩)
          · have hc2i : ¬ (C.length : Int) = 2 := by omega
            have hc2b : ((C.length : Int) == 2) = false := by simpa using hc2i
            have hrd := h1r.out (by omega) (by omega) hm
            have hY := hyes.out _ hrd
            have HY : Hid (∀ j (hj : j < (Y ++ [(⟨x, 0⟩ : Wd)]).length) (hj' : j < (linesS l).length), Reads (linesS l)[j] (Y ++ [(⟨x, 0⟩ : Wd)])[j]) := hY
            have HF : Hid ((Y ++ [(⟨x, 0⟩ : Wd)]).flatMap Wd.cells = Y.flatMap Wd.cells ++ [.int .i64 x, .int .i64 0]) := by simp [Hid, Wd.cells]
            have hfl : (Y.flatMap Wd.cells).length = k * 2 := by rw [ow_flat_len (n := 2) (fun _ => rfl), hYl]
            have wr1 : IntKind.i64.wrap ((k : Int) + 1) = (k : Int) + 1 := ck_wr _ (by omega) (by omega)
            obtain ⟨i0, hi0, hz1, hz2', hz3'⟩ := ops_info
            clear hbad htag h1r h2r hyes hm hrd hY
            generalize Y.flatMap Wd.cells = xs at *
            go_wp2_with (first
              | (go_at_call 12; refine (hH _).mono ?_; rintro r w5 ⟨rfl, rfl⟩)
              | (at_builtin; refine wpList_append_own _ rfl _ _ 22 rfl w2.heap.size 33 i0 (.agg #[.int .i64 0, .int .i64 0]) 2 16 Tryd.underlying22 hi0 hz1 hz2' hz3' rfl (by decide) _ k xs rfl (hown.alloc _) ⟨wc.heap.size, 0, none⟩ 1 1 [.int .i64 x, .int .i64 0] rfl rfl (ow_cells_new _ _ _) (by simp [Value.oneCell']) (by unfold maxLen; omega) (by omega) (by have := hb2c.size; simp; omega) ?_; intro v5 w5 hown5 hgr5 _))
            go_roundg ((linesS l).length - (k + 1))
            case measure => omega
            case rel => exact ⟨k + 1, Y ++ [(⟨x, 0⟩ : Wd)], by omega, by go_num, by rw [List.length_append, hYl]; rfl, HY.out, by rw [HF.out]; exact hown5, grown_below hb2c hown hgr5 hb2c.size⟩
        | true =>
          rw [hm] at hH
          by_cases hc2 : C.length = 2
          case neg =>
            have hc2i : ¬ (C.length : Int) = 2 := by omega
            have hc2b : ((C.length : Int) == 2) = false := by simpa using hc2i
            have hbad' : Hid (G = none) := hbad.out fun op h => by
              obtain ⟨e, h⟩ := htag.out op h
              rcases h with ⟨h', h⟩ | ⟨h', h⟩
              · rw [← e, hm] at h'
                cases h'
              · omega
            clear hbad htag h1r h2r hyes hm
            go_wp2_with (go_at_call 12; refine (hH _).mono ?_; rintro r w5 ⟨rfl, rfl⟩)
            exact bodyPost_ret (results_tmp2 rfl _ _ _) rfl (by rw [hbad'.out]; exact ⟨rfl, hbw⟩)
          have hc2i : (C.length : Int) = 2 := by omega
          have hrd := h2r.out (by omega) hc2 hm
          have hlen1 := hcE.out _ (List.getElem_mem (show 1 < C.length by omega))
          have c71 : wc.cell? ⟨g7, 1, none⟩ = some (.string (bx (C[1]'(by omega)))) := (World.cell?_of_block (a := ⟨g7, 1, none⟩) (hbc.block g7 hg7s)).trans (HC7.out 1 (by omega))
          have hNu : Hid (∀ w, Calls Tryd.prog 13 #[.string (bx (C[1]'(by omega)))] w fun r w' => r = .returned (.int .i64 (numM (C[1]'(by omega)))) ∧ w = w') := fun w => spec_l1Num _ (by omega) w
          generalize bx (C[1]'(by omega)) = t1 at c71 hNu
          generalize numM (C[1]'(by omega)) = nm at hNu hrd
          have hY := hyes.out _ hrd
          have HY : Hid (∀ j (hj : j < (Y ++ [(⟨x, nm⟩ : Wd)]).length) (hj' : j < (linesS l).length), Reads (linesS l)[j] (Y ++ [(⟨x, nm⟩ : Wd)])[j]) := hY
          have HF : Hid ((Y ++ [(⟨x, nm⟩ : Wd)]).flatMap Wd.cells = Y.flatMap Wd.cells ++ [.int .i64 x, .int .i64 nm]) := by simp [Hid, Wd.cells]
          have hfl : (Y.flatMap Wd.cells).length = k * 2 := by rw [ow_flat_len (n := 2) (fun _ => rfl), hYl]
          have wr1 : IntKind.i64.wrap ((k : Int) + 1) = (k : Int) + 1 := ck_wr _ (by omega) (by omega)
          obtain ⟨i0, hi0, hz1, hz2', hz3'⟩ := ops_info
          have hbS : Below wr.heap.size wr (wc.setCell ⟨b, 1, none⟩ (.int .i64 nm)) := hbwcS.out.setCell (p := ⟨b, 1, none⟩) (by have := hz3; show wr.heap.size ≤ b; omega) _
          have hownS := ow_keep hrowS.out hbS
          have hb2S : Below w2.heap.size w2 (wc.setCell ⟨b, 1, none⟩ (.int .i64 nm)) := hb2c.setCell (p := ⟨b, 1, none⟩) (by show w2.heap.size ≤ b; omega) _
          have hszS := hb2S.size
          have eS : (wc.setCell ⟨b, 1, none⟩ (.int .i64 nm)).heap.size = wc.heap.size := by simp
          have hnew : Hid (∀ j u, (#[.int .i64 x, .int .i64 nm] : Array Value).toList[j]? = some u → ((wc.setCell ⟨b, 1, none⟩ (.int .i64 nm)).alloc (.cells #[.int .i64 x, .int .i64 nm] 33)).cell? ((⟨wc.heap.size, 0, none⟩ : Addr).add j) = some u) := by
            have := ow_cells_new (wc.setCell ⟨b, 1, none⟩ (.int .i64 nm)) #[.int .i64 x, .int .i64 nm] 33
            rw [eS] at this
            exact this
          rw [eS] at hszS
          clear eS
          clear hbad htag h1r h2r hyes hm hrd hY hcE HC7 hbwcS hrowS hlen1 hbS hown
          generalize Y.flatMap Wd.cells = xs at *
          go_wp2_with (first
            | (go_at_call 12; refine (hH _).mono ?_; rintro r w5 ⟨rfl, rfl⟩)
            | (go_at_call 13; refine (hNu.out _).mono ?_; rintro r w5 ⟨rfl, rfl⟩)
            | (at_builtin; refine wpList_append_own _ rfl _ _ 22 rfl w2.heap.size 33 i0 (.agg #[.int .i64 0, .int .i64 0]) 2 16 Tryd.underlying22 hi0 hz1 hz2' hz3' rfl (by decide) _ k xs rfl (hownS.alloc _) ⟨wc.heap.size, 0, none⟩ 1 1 [.int .i64 x, .int .i64 nm] rfl rfl hnew.out (by simp [Value.oneCell']) (by unfold maxLen; omega) (by omega) (by simp; omega) ?_; intro v5 w5 hown5 hgr5 _))
          go_roundg ((linesS l).length - (k + 1))
          case measure => omega
          case rel => exact ⟨k + 1, Y ++ [(⟨x, nm⟩ : Wd)], by omega, by go_num, by rw [List.length_append, hYl]; rfl, HY.out, by rw [HF.out]; exact hown5, grown_below hb2S hownS hgr5 hb2S.size⟩
    · obtain rfl : k = (linesS l).length := by omega
      have hki : ¬ ((linesS l).length : Int) < ((linesS l).length : Int) := by omega
      have hW2 : Words wr (· < wr.heap.size) Y (.slice va (linesS l).length vc) := by
        have h9 : OwnR 2 Wd.cells 33 wr w2.heap.size Y (.slice va (linesS l).length vc) := by unfold OwnR; rw [hYl]; exact hrow
        exact (h9.row (fun _ => rfl)).same fun b hb => ⟨rfl, hb.2⟩
      have hbw : Below w.heap.size w wr := hb2.trans (hbr.mono hz2)
      have hOk : Hid (∀ w', Below wr.heap.size wr w' → Calls Tryd.prog 14 #[.slice va (linesS l).length vc] w' fun r w'' => r = .returned (.bool (codeM Y)) ∧ Below wr.heap.size wr w'') := fun w' h => (spec_l6Ok Y (by omega) w' _ (hW2.keep h h.size)).mono fun r w2 ⟨h1, h2⟩ => ⟨h1, cw_next h h2⟩
      have hAll : Hid (∀ X, codeM X = true → codeT X = l → Y = X) := fun X h1 h2 => read_all h1 h2 hYl (fun j hj hj' => hYr.out j hj hj')
      cases hM : codeM Y with
      | false =>
        rw [hM] at hOk
        have hg0 : Hid (G = none) := by
          rw [← HG.out]
          exact get_none fun X h1 h2 _ => by
            have e := hAll.out X h1 h2
            rw [← e, hM] at h1
            cases h1
        clear hM hAll hYr hrow hW2 HG
        go_wp2_with (go_at_call 14; refine (hOk.out _ (Below.refl _ _)).mono ?_; rintro r w5 ⟨rfl, hb5⟩)
        exact bodyPost_ret (results_tmp2 rfl _ _ _) rfl (by rw [hg0.out]; exact ⟨rfl, cw_next hbw hb5⟩)
      | true =>
        rw [hM] at hOk
        obtain ⟨hy1, hy2⟩ := codeM_fine hM
        have hPu : Hid (∀ w', Below wr.heap.size wr w' → Calls Tryd.prog 15 #[.slice va (linesS l).length vc] w' fun r w'' => r = .returned (.string (bx (codeT Y))) ∧ Below wr.heap.size wr w'') := fun w' h => (spec_l6Put Y hy1 hy2 w' _ (hW2.keep h h.size)).mono fun r w2 ⟨h1, h2⟩ => ⟨h1, cw_next h h2⟩
        have hown : Hid (∀ w', Below wr.heap.size wr w' → w'.ownsRow w.heap.size 33 2 (.slice va (linesS l).length vc) Y.length (Y.flatMap Wd.cells)) := fun w' h => by
          rw [hYl]
          exact ow_base (ow_keep hrow h) hz2
        by_cases ht : codeT Y = l
        · have hg0 : Hid (G = some Y) := by
            rw [← HG.out]
            exact get_intro hM ht h24N.out
          have q1 : ((bx (codeT Y)).toList == t.toList) = true := by rw [bx_toList, hW.out, ht]; simp
          have q2 : ((bx (codeT Y)).toList != t.toList) = false := by rw [bne, q1]; rfl
          generalize bx (codeT Y) = tp at hPu q1 q2
          clear hM hAll hYr hrow hW2 HG ht hy1 hy2
          go_wp2_with (first
            | (go_at_call 14; refine (hOk.out _ (Below.refl _ _)).mono ?_; rintro r w5 ⟨rfl, hb5⟩)
            | (go_at_call 15; refine (hPu.out _ hb5).mono ?_; rintro r w6 ⟨rfl, hb6⟩))
          exact bodyPost_ret (results_tmp2 rfl _ _ _) rfl (by rw [hg0.out]; exact ⟨⟨_, rfl, hown.out _ hb6⟩, cw_next hbw hb6⟩)
        · have hg0 : Hid (G = none) := by
            rw [← HG.out]
            exact get_none fun X h1 h2 _ => by
              have e := hAll.out X h1 h2
              rw [← e] at h2
              exact ht h2
          have q1 : ((bx (codeT Y)).toList == t.toList) = false := by rw [bx_toList, hW.out]; simpa using ht
          have q2 : ((bx (codeT Y)).toList != t.toList) = true := by rw [bne, q1]; rfl
          generalize bx (codeT Y) = tp at hPu q1 q2
          clear hM hAll hYr hrow hW2 HG ht hy1 hy2
          go_wp2_with (first
            | (go_at_call 14; refine (hOk.out _ (Below.refl _ _)).mono ?_; rintro r w5 ⟨rfl, hb5⟩)
            | (go_at_call 15; refine (hPu.out _ hb5).mono ?_; rintro r w6 ⟨rfl, hb6⟩))
          exact bodyPost_ret (results_tmp2 rfl _ _ _) rfl (by rw [hg0.out]; exact ⟨rfl, cw_next hbw hb6⟩)
end Go.Proofs.YtaagnifagahgfaaDoor

