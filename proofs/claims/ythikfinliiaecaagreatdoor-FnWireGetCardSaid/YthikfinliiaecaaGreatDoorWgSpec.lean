/-
  The specification's WireGet.
-/
import Derived.Test.YthikfinliiaecaaGreatDoorWgCellS
import Derived.Test.YthikfinliiaecaaGreatDoorWiSpecB
namespace Go.Proofs.YthikfinliiaecaaGreatDoor
open Go.RowKit

theorem tail_next {Ls : List (List UInt8)} {j : Nat} (h1 : 1 ≤ j) (h2 : j < Ls.length) : Ls.tail.take j = Ls.tail.take (j - 1) ++ [Ls[j]] := by
  obtain ⟨i, rfl⟩ : ∃ i, j = i + 1 := ⟨j - 1, by omega⟩
  rw [Nat.add_sub_cancel, List.take_succ_eq_append_getElem (by rw [List.length_tail]; omega)]
  congr 2
  rw [List.getElem_tail]
/-- The cells of the first lines behind the first one, and whether they are all cells. -/
def cellsS (Ls : List (List UInt8)) (j : Nat) : List Ce := (Ls.tail.take (j - 1)).map fun p => (cellS p).1
def goodS (Ls : List (List UInt8)) (j : Nat) : Bool := (Ls.tail.take (j - 1)).all fun p => (cellS p).2
theorem cellsS_next {Ls : List (List UInt8)} {j : Nat} (h1 : 1 ≤ j) (h2 : j < Ls.length) : cellsS Ls (j + 1) = cellsS Ls j ++ [(cellS Ls[j]).1] ∧ goodS Ls (j + 1) = (goodS Ls j && (cellS Ls[j]).2) := by
  unfold cellsS goodS
  rw [Nat.add_sub_cancel, tail_next h1 h2]
  simp
theorem cellsS_len {Ls : List (List UInt8)} {j : Nat} (h1 : 1 ≤ j) (h2 : j ≤ Ls.length) : (cellsS Ls j).length = j - 1 := by
  unfold cellsS
  rw [List.length_map, List.length_take, List.length_tail]
  omega
theorem cellsS_end {Ls : List (List UInt8)} : cellsS Ls Ls.length = Ls.tail.map (fun p => (cellS p).1) ∧ goodS Ls Ls.length = Ls.tail.all (fun p => (cellS p).2) := by
  unfold cellsS goodS
  rw [List.take_of_length_le (by rw [List.length_tail]; exact Nat.le_refl _)]
  exact ⟨rfl, rfl⟩
theorem cellsS_one {Ls : List (List UInt8)} : cellsS Ls 1 = [] ∧ goodS Ls 1 = true := by
  unfold cellsS goodS
  simp

set_option maxRecDepth 100000 in
set_option maxHeartbeats 4000000 in
theorem spec_WireGet (l : List UInt8) (hl : l.length ≤ 1048576) (w : World) :
    Calls Tryz.prog 6 #[.string (bx l)] w fun r w' => GotW w w' (getW l) r := by
  by_cases h0 : l.length = 0
  · have hl0 : l = [] := List.length_eq_zero_iff.1 h0
    subst hl0
    rw [show getW [] = none from if_neg (fun h => h.1 rfl)]
    show Calls Tryz.prog 6 #[.string ⟨#[]⟩] w _
    go_enter Tryz.func6, Tryz.ntmps6
    go_wp2_with fail
    exact bodyPost_ret (v := .tuple #[.slice none 0 0, .agg #[.int .i64 0, .int .i64 0], .bool false]) (by simp [results, Tryz.results6, go_sem]) rfl ⟨rfl, (Below.refl _ _).alloc (Nat.le_refl _) _⟩
  obtain ⟨n, hn⟩ : ∃ n, l.length = n + 1 := ⟨l.length - 1, by omega⟩
  obtain ⟨t, hsz, hHat, hHex, hW, e⟩ : ∃ t : ByteArray, t.size = l.length ∧ Hid (∀ i (h : i < l.length) (h' : i < t.size), t[i]'h' = l[i]) ∧ Hid (t.extract 0 n = bx (l.take n)) ∧ Hid (t.toList = l) ∧ bx l = t := ⟨bx l, bx_size l, fun i _ h' => byte_at l i h', bx_front l n, bx_toList l, rfl⟩
  rw [e]
  clear e
  have hq0 : (t.toList == []) = false := by
    rw [hW.out]
    simpa using fun h => h0 (by rw [h]; rfl)
  have hnt : n < t.size := by omega
  have hby : t[n]'hnt = l[n]'(by omega) := hHat.out n (by omega) hnt
  have wr0 : IntKind.i64.wrap ((l.length : Int) - 1) = (n : Int) := by rw [hn]; exact (ck_wr _ (by omega) (by omega)).trans (by omega)
  by_cases h10 : l[n]'(by omega) = 10
  case neg =>
    have hG : getW l = none := getW_none (fun _ _ hlast _ _ _ _ => by
      rw [List.getLast?_eq_getElem?, show l.length - 1 = n by omega, List.getElem?_eq_getElem (by omega)] at hlast
      exact h10 (Option.some.inj hlast))
    rw [hG]
    have hq1 : ¬ ((t[n]'hnt).toNat : Int) = 10 := by
      rw [hby]
      intro e
      exact h10 (UInt8.toNat_inj.1 (by have h9 : ((10 : UInt8).toNat) = 10 := rfl; omega))
    have hq2 : ¬ (t[n]'hnt).toNat = 10 := by omega
    have hq3 : (((t[n]'hnt).toNat : Int) == 10) = false := by simpa using hq1
    have hq4 : (((t[n]'hnt).toNat : Int) != 10) = true := by rw [bne, hq3]; rfl
    clear hby h10
    go_enter Tryz.func6, Tryz.ntmps6
    go_wp2_with fail
    exact bodyPost_ret (v := .tuple #[.slice none 0 0, .agg #[.int .i64 0, .int .i64 0], .bool false]) (by simp [results, Tryz.results6, go_sem]) rfl ⟨rfl, (Below.refl _ _).alloc (Nat.le_refl _) _⟩
  have hq1 : ((t[n]'hnt).toNat : Int) = 10 := by rw [hby, h10]; rfl
  have hq4 : (((t[n]'hnt).toNat : Int) != 10) = false := by rw [hq1]; rfl
  by_cases h24 : 4000 < l.length
  · have hG : getW l = none := if_neg (fun h => by have := h.2.1; omega)
    rw [hG]
    have h24i : (4000 : Int) < (l.length : Int) := by omega
    clear hby h10
    go_enter Tryz.func6, Tryz.ntmps6
    go_wp2_with fail
    exact bodyPost_ret (v := .tuple #[.slice none 0 0, .agg #[.int .i64 0, .int .i64 0], .bool false]) (by simp [results, Tryz.results6, go_sem]) rfl ⟨rfl, (Below.refl _ _).alloc (Nat.le_refl _) _⟩
  have hCu : Hid (∀ w, Calls Tryz.prog 21 #[.string (t.extract 0 n), .int .u8 10, .int .i64 ((n : Int) + 1)] w fun r w' => (∃ v, r = .returned v ∧ w'.ownsRow w.heap.size 9 1 v (linesW l).length (strsV (linesW l))) ∧ Below w.heap.size w w') := fun w => by
    rw [hHex.out]
    have := spec_l1Cut (l.take n) 10 l.length (by rw [List.length_take]; omega) (by omega) w
    rw [show ((n : Int) + 1) = ((l.length : Nat) : Int) by omega]
    rw [show l.take n = l.take (l.length - 1) by rw [hn]; rfl] at this ⊢
    exact this
  have hn0 : (0 : Int) ≤ (n : Int) := by omega
  have hnl : (n : Int) ≤ (n : Int) + 1 := by omega
  have hnN : n ≤ n + 1 := by omega
  have hsz1 : t.size = n + 1 := by omega
  have hlb := (cutG_len 10 l.length (l.take (l.length - 1))).1
  have hlu := (cutG_len 10 l.length (l.take (l.length - 1))).2.1
  have hle : ∀ p ∈ linesW l, p.length ≤ 1048576 := fun p hp => by
    have := cutG_each 10 l.length _ p hp
    rw [List.length_take] at this
    omega
  have hne0 : l ≠ [] := fun e => h0 (by rw [e]; rfl)
  have HI : Hid (wireM (specC l) (specW l) = l → getW l = some (specC l, specW l)) := getW_intro hne0 (by omega)
  have HNo : Hid ((okW (specC l) (specW l) → wireM (specC l) (specW l) = l → (wordS ((linesW l).headD [])).2 = true → (∀ p ∈ (linesW l).tail, (cellS p).2 = true) → False) → getW l = none) := fun h => getW_none (fun _ _ _ a b c d => h a b c d)
  have hSC : specC l = cellsS (linesW l) (linesW l).length := cellsS_end.1.symm
  have hSW : specW l = (wordS ((linesW l).headD [])).1 := rfl
  have hSG : Hid (goodS (linesW l) (linesW l).length = true → ∀ p ∈ (linesW l).tail, (cellS p).2 = true) := fun h => by
    rw [cellsS_end.2, List.all_eq_true] at h
    exact h
  have hSG2 : Hid ((∀ p ∈ (linesW l).tail, (cellS p).2 = true) → goodS (linesW l) (linesW l).length = true) := fun h => by
    rw [cellsS_end.2, List.all_eq_true]
    exact h
  rw [hSC, hSW] at HI HNo
  generalize hG : getW l = G at *
  change 1 ≤ (linesW l).length at hlb
  change (linesW l).length ≤ l.length + 1 at hlu
  have hL4 : (linesW l).length ≤ 4001 := by omega
  generalize linesW l = Ls at *
  have h24n : ¬ (4000 : Int) < (n : Int) + 1 := by omega
  have hd0 : Ls.headD [] = Ls[0]'(by omega) := by
    cases Ls with
    | nil => simp at hlb
    | cons a b => rfl
  rw [hd0] at HI HNo
  have hGW := fun w' => spec_l12Get (Ls[0]'(by omega)) (hle _ (List.getElem_mem _)) w'
  have HLE : Hid (∀ j (hj : j < Ls.length), (Ls[j]).length ≤ 1048576) := fun j hj => hle _ (List.getElem_mem _)
  clear hG hby h10 hsz hn h0 wr0 h24 hle hSC hSW hd0 hne0
  generalize wordS (Ls[0]'(by omega)) = W0 at *
  obtain ⟨D, ok0⟩ := W0
  go_enter Tryz.func6, Tryz.ntmps6
  go_upto_region 4 with (go_at_call 21; refine (hCu.out _).mono ?_; rintro r w2 ⟨⟨v4, rfl, hr4⟩, hb2⟩)
  obtain ⟨g4, cap4, rfl, hg4, hg4s, hc4⟩ := row_strs hr4 (by omega)
  have HC4 : Hid (∀ j (hj : j < Ls.length), w2.cell? ⟨g4, j, none⟩ = some (.string (bx Ls[j]))) := hc4
  have k0 := hc4 0 (by omega)
  have hB2 : Below w.heap.size w w2 := wi_next (wg_new _ _) hb2
  have hx2 : w2.heap[w.heap.size]? = some (boxW ⟨0, 0⟩) := (hb2.block _ (by simp)).trans (heap_alloc_new w _)
  generalize bx (Ls[0]'(by omega)) = t0 at *
  clear hr4 hc4 hb2
  go_upto_region 6 with (go_at_call 22; refine (hGW _).mono ?_; rintro e w3 ⟨rfl, hb3⟩)
  have hz3' : w2.heap.size ≤ w3.heap.size := hb3.size
  have hx3 : w3.heap[w.heap.size]? = some (boxW ⟨0, 0⟩) := (hb3.block _ (Array.getElem?_eq_some_iff.1 hx2).1).trans hx2
  have hB3 : Below w.heap.size w w3 := wi_next hB2 hb3
  have hwz : w.heap.size < w3.heap.size := (Array.getElem?_eq_some_iff.1 hx3).1
  have hz4 : (w3.alloc (boxW D)).heap.size = w3.heap.size + 1 := by simp
  have hD4 : (w3.alloc (boxW D)).heap[w3.heap.size]? = some (boxW D) := heap_alloc_new w3 (boxW D)
  have hx4 : (w3.alloc (boxW D)).heap[w.heap.size]? = some (boxW ⟨0, 0⟩) := ((wg_new w3 (boxW D)).block _ hwz).trans hx3
  have hB4 : Below w.heap.size w (w3.alloc (boxW D)) := wi_next hB3 (wg_new _ _)
  have HC5 : Hid (∀ j (hj : j < Ls.length), (w3.alloc (boxW D)).cell? ⟨g4, j, none⟩ = some (.string (bx Ls[j]))) := fun j hj =>
    (World.cell?_of_block (a := ⟨g4, j, none⟩) ((wg_new w3 (boxW D)).block g4 (by omega))).trans ((World.cell?_of_block (a := ⟨g4, j, none⟩) (hb3.block g4 hg4s)).trans (HC4.out j hj))
  clear k0 HC4 hb3 hB2 hx2 hx3 hB3 hGW hCu
  change Code.wp _ _ _ _ ((w3.alloc (boxW D)).alloc (.cells #[] 48))
  generalize w3.alloc (boxW D) = w4 at *
  have hop : (w4.alloc (.cells #[] 48)).ownsRow (w3.heap.size + 1) 48 6 (.slice (some ⟨w3.heap.size + 1, 0, none⟩) 0 0) 0 [] := by
    rw [← hz4]
    exact World.ownsRow_made w4 #[] 0 (Nat.le_refl _) (Nat.zero_le _) rfl
  go_wp2_with fail
  go_loopg [7, 8, 9] (Ls.length - 1) (fun m okv lst i wr => ∃ j : Nat, 1 ≤ j ∧ j + m = Ls.length ∧ okv = .bool (ok0 && goodS Ls j) ∧ i = .int .i64 (j : Int) ∧ wr.ownsRow (w3.heap.size + 1) 48 6 lst (j - 1) ((cellsS Ls j).flatMap Ce.cells) ∧ Below (w3.heap.size + 1) w4 wr)
  case atStart =>
    refine ⟨1, Nat.le_refl _, by omega, by rw [cellsS_one.2, Bool.and_true], rfl, ?_, (Below.refl _ _).alloc (by omega) _⟩
    rw [cellsS_one.1]
    exact hop
  case round =>
    clear hop
    obtain ⟨j, hj1, hjm, rfl, rfl, hrow, hbr⟩ := hrel
    have hzr := hbr.size
    obtain ⟨va, vc, rfl⟩ := own_slice hrow
    by_cases hlt : j < Ls.length
    · have hki : (j : Int) < (Ls.length : Int) := by omega
      have c4 : wr.cell? ⟨g4, j, none⟩ = some (.string (bx Ls[j])) := (World.cell?_of_block (a := ⟨g4, j, none⟩) (hbr.block g4 (by omega))).trans (HC5.out j hlt)
      have hCC := fun w' => spec_l12Cell Ls[j] (HLE.out j hlt) w'
      obtain ⟨hN1, hN2⟩ := cellsS_next hj1 hlt
      have hfl : ((cellsS Ls j).flatMap Ce.cells).length = (j - 1) * 6 := by rw [ow_flat_len (n := 6) (fun _ => rfl), cellsS_len hj1 (by omega)]
      have HN1 : Hid ((cellsS Ls (j + 1)).flatMap Ce.cells = (cellsS Ls j).flatMap Ce.cells ++ (cellS Ls[j]).1.cells) := by show _ = _; rw [hN1]; simp
      have HN2 : Hid (goodS Ls (j + 1) = (goodS Ls j && (cellS Ls[j]).2)) := hN2
      clear hN1 hN2
      generalize bx Ls[j] = tj at *
      generalize cellS Ls[j] = cc at *
      obtain ⟨c, fine⟩ := cc
      generalize (cellsS Ls j).flatMap Ce.cells = xs at *
      obtain ⟨i0, hi0, hq7, hq8, hq9⟩ := cells_info
      have wr1 : IntKind.i64.wrap ((j : Int) + 1) = (j : Int) + 1 := ck_wr _ (by omega) (by omega)
      have HO : Hid (∀ b, (ok0 && goodS Ls j) = b → (ok0 && goodS Ls (j + 1)) = (b && fine)) := fun b h => by rw [HN2.out, ← h, Bool.and_assoc]
      have HB : Hid (∀ w5, Below wr.heap.size wr w5 → Below (w3.heap.size + 1) w4 w5) := fun w5 h => hbr.trans (h.mono (by omega))
      clear HNo HI hSG HLE HC5 HN2 hHat hHex hW
      generalize hokv : (ok0 && goodS Ls j) = okv
      have HOK : Hid ((ok0 && goodS Ls (j + 1)) = (okv && fine)) := HO.out okv hokv
      clear hokv HO
      cases okv
      all_goals
        go_upto_region 11 with (go_at_call 23; refine (hCC _).mono ?_; rintro e w5 ⟨rfl, hb5⟩)
        have hown5 := ow_keep hrow hb5
        have hb5' := HB.out _ hb5
        have hz5 := hb5'.size
        have hnew := ow_cells_new (w5.alloc (boxC c)) #[.int .i64 c.kind, .int .i64 c.num, .int .i64 c.a.tag, .int .i64 c.a.num, .int .i64 c.b.tag, .int .i64 c.b.num] 48
        rw [World.size_alloc] at hnew
        have hjj : j - 1 + 1 = j + 1 - 1 := by omega
        have HJJ : Hid (j - 1 + 1 = j + 1 - 1) := hjj
        have hown6 : Hid ((w5.alloc (boxC c)).ownsRow (w3.heap.size + 1) 48 6 (.slice va (j - 1) vc) (j - 1) xs) := hown5.alloc _
        have hb6 : Hid (Below (w3.heap.size + 1) w4 (w5.alloc (boxC c))) := hb5'.alloc (by omega) _
        clear hrow hCC HB hjj c4 hb5
        go_wp2_with (at_builtin; refine wpList_append_own _ rfl _ _ 24 rfl (w3.heap.size + 1) 48 i0 zeroC.val 6 48 Tryz.underlying24 hi0 hq7 hq8 hq9 rfl (by decide) _ (j - 1) xs rfl (hown6.out.alloc _) ⟨w5.heap.size + 1, 0, none⟩ 1 1 c.cells rfl rfl hnew (by simp [Ce.cells, Value.oneCell']) (by unfold maxLen; omega) (by omega) (by simp; omega) ?_; intro v7 w7 hown7 hgr7 _)
        go_roundg (Ls.length - (j + 1))
        case measure => omega
        case rel => exact ⟨j + 1, by omega, by omega, by rw [HOK.out]; rfl, by go_num, by rw [HN1.out, ← HJJ.out]; exact hown7, grown_below hb6.out hown6.out hgr7 (by have := hb6.out.size; omega)⟩
    · obtain rfl : j = Ls.length := by omega
      have hki : ¬ (Ls.length : Int) < (Ls.length : Int) := by omega
      have hYl : (cellsS Ls Ls.length).length = Ls.length - 1 := cellsS_len hlb (Nat.le_refl _)
      have hr4 : wr.heap[w3.heap.size]? = some (boxW D) := (hbr.block _ (by omega)).trans hD4
      have hrx : wr.heap[w.heap.size]? = some (boxW ⟨0, 0⟩) := (hbr.block _ (by omega)).trans hx4
      have hbw : Below w.heap.size w wr := hB4.trans (hbr.mono (by omega))
      generalize hYY : cellsS Ls Ls.length = Y at *
      generalize hgd : goodS Ls Ls.length = gd at *
      rw [← hYl] at hrow ⊢
      have hY4 : Y.length ≤ 1048576 := by omega
      have hvY : Cells wr (· < wr.heap.size) Y (.slice va Y.length vc) := wi_cells hrow
      have HK : Hid (∀ w', Below wr.heap.size wr w' → (w'.cell? ⟨w3.heap.size, 0, none⟩ = some (.int .i64 D.tag) ∧ w'.cell? ⟨w3.heap.size, 1, none⟩ = some (.int .i64 D.num)) ∧ (w'.cell? ⟨w.heap.size, 0, none⟩ = some (.int .i64 0) ∧ w'.cell? ⟨w.heap.size, 1, none⟩ = some (.int .i64 0)) ∧ (w'.frozen? ⟨w.heap.size, 0, none⟩ = false ∧ w'.frozen? ⟨w.heap.size, 1, none⟩ = false) ∧ Below w.heap.size w w' ∧ w'.heap[w.heap.size]? = some (boxW ⟨0, 0⟩) ∧ w.heap.size < w'.heap.size) := fun w' hb => by
        have h2 := (hb.block w3.heap.size (Array.getElem?_eq_some_iff.1 hr4).1).trans hr4
        have h3 := (hb.block w.heap.size (Array.getElem?_eq_some_iff.1 hrx).1).trans hrx
        exact ⟨boxW_two h2, boxW_two h3, ⟨boxW_froz h3 0, boxW_froz h3 1⟩, wi_next hbw hb, h3, (Array.getElem?_eq_some_iff.1 h3).1⟩
      have HOW : Hid (∀ w', Below wr.heap.size wr w' → w'.ownsRow (w3.heap.size + 1) 48 6 (.slice va Y.length vc) Y.length (Y.flatMap Ce.cells)) := fun w' hb => ow_keep hrow hb
      have hO : ∀ w', Below wr.heap.size wr w' → Calls Tryz.prog 24 #[.slice va Y.length vc] w' fun r w2 => r = .returned (.bool (heapM Y)) ∧ Below wr.heap.size wr w2 := fun w' h => (ho_l7Ok Y hY4 _ w' (hvY.keep h h.size)).mono fun r w2 ⟨h1, h2⟩ => ⟨h1, wi_next h h2⟩
      have hWo : ∀ w', Below wr.heap.size wr w' → Calls Tryz.prog 25 #[.agg #[.int .i64 D.tag, .int .i64 D.num], .int .i64 Y.length] w' fun r w2 => r = .returned (.bool (decide (wordP Y.length D.tag D.num))) ∧ Below wr.heap.size wr w2 := fun w' h => (ho_l7WordOk Y.length (by omega) D.tag D.num w').mono fun r w2 ⟨h1, h2⟩ => ⟨h1, wi_next h h2⟩
      have hrf : Below wr.heap.size wr wr := Below.refl _ _
      have HVY : Hid (∀ w', Below wr.heap.size wr w' → Cells w' (· < w'.heap.size) Y (.slice va Y.length vc)) := fun w' h => hvY.keep h h.size
      obtain ⟨⟨d0, d1⟩, ⟨e0, e1⟩, ⟨f0, f1⟩, hBB, _, hsw⟩ := HK.out wr hrf
      clear hvY hrow hr4 hrx HC5 HLE hYY hHex hHat hD4 hx4 hlt hjm hYl
      cases hok : (ok0 && gd) with
      | false =>
        have hG0 : Hid (G = none) := HNo.out fun _ _ h1 h2 => by
          have := hSG2.out h2
          rw [h1, this] at hok
          cases hok
        clear HNo HI hok hO hWo HK HOW HVY hSG hSG2
        go_wp2_with fail
        refine bodyPost_ret (v := .tuple #[.slice none 0 0, .agg #[.int .i64 0, .int .i64 0], .bool false]) (by simp [results, Tryz.results6, go_sem, e0, e1]) rfl ?_
        rw [hG0.out]
        exact ⟨rfl, (hBB.setCell (p := ⟨w.heap.size, 0, none⟩) (Nat.le_refl _) _).setCell (p := ⟨w.heap.size, 1, none⟩) (Nat.le_refl _) _⟩
      | true =>
        have hO1 : ok0 = true := by
          cases ok0
          · cases hok
          · rfl
        have hO2 : gd = true := by
          rw [hO1] at hok
          exact hok
        cases hh : heapM Y with
        | false =>
          rw [hh] at hO
          have hG0 : Hid (G = none) := HNo.out fun h1 _ _ _ => by
            have := h1.1
            rw [hh] at this
            cases this
          clear HNo HI hok hO1 hO2 hh hWo HOW HVY hSG hSG2 e0 e1 f0 f1 hBB hsw d0 d1
          go_wp2_with (go_at_call 24; refine (hO _ hrf).mono ?_; rintro e w5 ⟨rfl, hb5⟩; (obtain ⟨⟨d0, d1⟩, ⟨e0, e1⟩, ⟨f0, f1⟩, hBB, _, hsw⟩ := HK.out _ hb5))
          refine bodyPost_ret (v := .tuple #[.slice none 0 0, .agg #[.int .i64 0, .int .i64 0], .bool false]) (by simp [results, Tryz.results6, go_sem, e0, e1]) rfl ?_
          rw [hG0.out]
          exact ⟨rfl, (hBB.setCell (p := ⟨w.heap.size, 0, none⟩) (Nat.le_refl _) _).setCell (p := ⟨w.heap.size, 1, none⟩) (Nat.le_refl _) _⟩
        | true =>
          rw [hh] at hO
          by_cases hw : wordP Y.length D.tag D.num
          case neg =>
            rw [decide_eq_false hw] at hWo
            have hG0 : Hid (G = none) := HNo.out fun h1 _ _ _ => hw (words_one_iff.1 h1.2)
            clear HNo HI hok hO1 hO2 hh hw HOW HVY hSG hSG2 e0 e1 f0 f1 hBB hsw d0 d1
            go_wp2_with (first | (go_at_call 24; refine (hO _ hrf).mono ?_; rintro e w5 ⟨rfl, hb5⟩; (obtain ⟨⟨d0, d1⟩, ⟨e0, e1⟩, ⟨f0, f1⟩, hBB, _, hsw⟩ := HK.out _ hb5)) | (go_at_call 25; refine (hWo _ hb5).mono ?_; rintro e w6 ⟨rfl, hb6⟩; clear d0 d1 e0 e1 f0 f1 hBB hsw; (obtain ⟨⟨d0, d1⟩, ⟨e0, e1⟩, ⟨f0, f1⟩, hBB, _, hsw⟩ := HK.out _ hb6)))
            refine bodyPost_ret (v := .tuple #[.slice none 0 0, .agg #[.int .i64 0, .int .i64 0], .bool false]) (by simp [results, Tryz.results6, go_sem, e0, e1]) rfl ?_
            rw [hG0.out]
            exact ⟨rfl, (hBB.setCell (p := ⟨w.heap.size, 0, none⟩) (Nat.le_refl _) _).setCell (p := ⟨w.heap.size, 1, none⟩) (Nat.le_refl _) _⟩
          rw [decide_eq_true hw] at hWo
          have hok2 : okW Y D := ⟨hh, words_one_iff.2 hw⟩
          obtain ⟨x, ex, hheap, hwp⟩ := wire_yes hok2
          have e3 : wireM Y D = wireT (cleanC Y [D]) x := by rw [wireM, if_pos hok2, ex]; rfl
          have e4 : cleanC Y [D] = (copyS Y [] [D]).to := by rw [cleanC]; exact if_pos hok2
          have e5 : cleanW Y [D] = wordsW Y (st0 Y []) [D] := by rw [cleanW]; exact if_pos hok2
          rw [e5] at ex
          rw [e4] at hheap hwp e3
          have hfine := cell_fine hheap
          have h120 : (copyS Y [] [D]).to.length ≤ 120 := (heap_refs hheap).1
          have hxf := word_fine (by omega) hwp
          obtain ⟨hcl, hrefs⟩ := heap_refs hh
          have hwr := words_refs hok2.2
          have HCopy : Hid (∀ w', Below wr.heap.size wr w' → Calls Tryz.prog 26 #[.slice va Y.length vc, .slice (some ⟨w'.heap.size, 0, none⟩) 1 1, .slice none 0 0] (w'.alloc (boxW D)) fun r w2 => CopyP (w'.alloc (boxW D)) w2 Y [] [D] r) := fun w' h =>
            copy_rest Y [] [D] (by omega) (by simp) (by simp) hwr hrefs (w'.alloc (boxW D)) va none vc 0 (.slice (some ⟨w'.heap.size, 0, none⟩) 1 1) ((HVY.out w' h).keep (wg_new _ _) (wg_new _ _).size) (RowOf.nil _ _) (wi_lit w' D)
          have HPut := fun v' w' h => spec_l12Put (copyS Y [] [D]).to h120 hfine x hxf v' w' h
          rw [← e3] at HPut
          clear hO1 hO2 hok hh hw hok2 hheap hwp e3 e4 e5 hfine h120 hxf hcl hrefs hwr hSG hSG2 HVY e0 e1 f0 f1 hBB hsw d0 d1
          go_upto_region 14 with (first
            | (go_at_call 24; refine (hO _ hrf).mono ?_; rintro e w5 ⟨rfl, hb5⟩; (obtain ⟨⟨d0, d1⟩, _⟩ := HK.out _ hb5))
            | (go_at_call 25; refine (hWo _ hb5).mono ?_; rintro e w6 ⟨rfl, hb6⟩; clear d0 d1; (obtain ⟨⟨d0, d1⟩, _⟩ := HK.out _ hb6)))
          have HC := HCopy.out _ hb6
          unfold CopyP at HC
          rw [ex] at HC
          have hb7 : Below wr.heap.size wr (w6.alloc (boxW D)) := wi_next hb6 (wg_new _ _)
          clear HCopy hO hWo hrf ex hb5
          by_cases he : wireM Y D = l
          · have hG0 : Hid (G = some (Y, D)) := HI.out he
            have hq5 : ((bx (wireM Y D)).toList == t.toList) = true := by rw [he, bx_toList, hW.out]; simp
            have hq6 : ((bx (wireM Y D)).toList != t.toList) = false := by rw [bne, hq5]; rfl
            clear HI HNo he
            generalize bx (wireM Y D) = tc at *
            go_upto_region 17 with (first
              | (go_at_call 26; refine HC.mono ?_; rintro e w7 ⟨vt, v2, rfl, hO1, hO2, hb8⟩; have hC4 := wi_cells hO1; (obtain ⟨a1, c1, rfl⟩ := hC4.slice); (obtain ⟨a2, c2, rfl⟩ := (wi_words hO2).slice); (obtain ⟨xb, xo, hxb, rfl, xr⟩ := (wi_words hO2).at 0 (by simp)); (obtain ⟨x0, x1⟩ := Wd.two xr); rw [Nat.zero_mul] at x0 x1; simp only [Nat.add_zero] at x0 x1)
              | (go_at_call 27; refine (HPut _ _ hC4).mono ?_; rintro e w8 ⟨rfl, hb9⟩))
            have hch : Below wr.heap.size wr w8 := wi_next (wi_next hb7 hb8) hb9
            clear d0 d1
            obtain ⟨⟨d0, d1⟩, ⟨e0, e1⟩, ⟨f0, f1⟩, hBB, hx8, hsw⟩ := HK.out _ hch
            have hO8 := HOW.out _ hch
            clear hb9 hb8 hb7 hb6 hC4 hO1 hO2 hxb xr x0 x1 HC HPut HK HOW
            have d6 : w8.drew.cell? ⟨w3.heap.size, 0, none⟩ = some (.int .i64 D.tag) := d0
            have d7 : w8.drew.cell? ⟨w3.heap.size, 1, none⟩ = some (.int .i64 D.num) := d1
            have e6 : w8.drew.cell? ⟨w.heap.size, 0, none⟩ = some (.int .i64 0) := e0
            have e7 : w8.drew.cell? ⟨w.heap.size, 1, none⟩ = some (.int .i64 0) := e1
            have f6 : w8.drew.frozen? ⟨w.heap.size, 0, none⟩ = false := f0
            have f7 : w8.drew.frozen? ⟨w.heap.size, 1, none⟩ = false := f1
            have HS2 : ∀ v0 v1, ((w8.drew.setCell ⟨w.heap.size, 0, none⟩ v0).setCell ⟨w.heap.size, 1, none⟩ v1).cell? ⟨w3.heap.size, 0, none⟩ = some (.int .i64 D.tag) ∧ ((w8.drew.setCell ⟨w.heap.size, 0, none⟩ v0).setCell ⟨w.heap.size, 1, none⟩ v1).cell? ⟨w3.heap.size, 1, none⟩ = some (.int .i64 D.num) := fun v0 v1 =>
              ⟨(World.cell?_of_block (a := ⟨w3.heap.size, 0, none⟩) (set_two_other (by dsimp only; omega))).trans d6, (World.cell?_of_block (a := ⟨w3.heap.size, 1, none⟩) (set_two_other (by dsimp only; omega))).trans d7⟩
            have hWF : ((w8.setCell ⟨w.heap.size, 0, none⟩ (.int .i64 D.tag)).setCell ⟨w.heap.size, 1, none⟩ (.int .i64 D.num)).drew.heap[w.heap.size]? = some (boxW D) := boxW_set hx8 D
            have hBF : Below w.heap.size w ((w8.setCell ⟨w.heap.size, 0, none⟩ (.int .i64 D.tag)).setCell ⟨w.heap.size, 1, none⟩ (.int .i64 D.num)).drew := ((hBB.setCell (p := ⟨w.heap.size, 0, none⟩) (Nat.le_refl _) _).setCell (p := ⟨w.heap.size, 1, none⟩) (Nat.le_refl _) _).drew
            have hOF : Hid (((w8.setCell ⟨w.heap.size, 0, none⟩ (.int .i64 D.tag)).setCell ⟨w.heap.size, 1, none⟩ (.int .i64 D.num)).drew.ownsRow (w.heap.size + 1) 48 6 (.slice va Y.length vc) Y.length (Y.flatMap Ce.cells)) := ow_keep (own_set2 (ow_base hO8 (by omega))) (Below.refl _ _).drew
            obtain ⟨x0, x1⟩ := boxW_two hWF
            go_region_held3 (fun w' => w'.cell? ⟨w3.heap.size, 0, none⟩ = some (.int .i64 D.tag) ∧ w'.cell? ⟨w3.heap.size, 1, none⟩ = some (.int .i64 D.num))
              (first | exact ⟨d6, d7⟩ | exact HS2 _ _) (fail)
            all_goals
              go_wp2_with fail
              generalize ((w8.setCell ⟨w.heap.size, 0, none⟩ (.int .i64 D.tag)).setCell ⟨w.heap.size, 1, none⟩ (.int .i64 D.num)).drew = WF at *
              refine bodyPost_ret (v := .tuple #[.slice va Y.length vc, .agg #[.int .i64 D.tag, .int .i64 D.num], .bool true]) (by simp [results, Tryz.results6, go_sem, x0, x1]) rfl ?_
              rw [hG0.out]
              exact ⟨⟨_, rfl, ow_base hOF.out (by omega)⟩, hBF⟩
          · have hG0 : Hid (G = none) := HNo.out fun _ h _ _ => he h
            have hq5 : ((bx (wireM Y D)).toList == t.toList) = false := by rw [bx_toList, hW.out]; simpa using he
            have hq6 : ((bx (wireM Y D)).toList != t.toList) = true := by rw [bne, hq5]; rfl
            clear HI HNo he
            generalize bx (wireM Y D) = tc at *
            go_wp2_with (first
              | (go_at_call 26; refine HC.mono ?_; rintro e w7 ⟨vt, v2, rfl, hO1, hO2, hb8⟩; have hC4 := wi_cells hO1; (obtain ⟨a1, c1, rfl⟩ := hC4.slice); (obtain ⟨a2, c2, rfl⟩ := (wi_words hO2).slice); (obtain ⟨xb, xo, hxb, rfl, xr⟩ := (wi_words hO2).at 0 (by simp)); (obtain ⟨x0, x1⟩ := Wd.two xr); rw [Nat.zero_mul] at x0 x1; simp only [Nat.add_zero] at x0 x1)
              | (go_at_call 27; refine (HPut _ _ hC4).mono ?_; rintro e w8 ⟨rfl, hb9⟩; have hch : Below wr.heap.size wr w8 := wi_next (wi_next hb7 hb8) hb9; clear d0 d1; (obtain ⟨⟨d0, d1⟩, ⟨e0, e1⟩, ⟨f0, f1⟩, hBB, _, hsw⟩ := HK.out _ hch)))
            refine bodyPost_ret (v := .tuple #[.slice none 0 0, .agg #[.int .i64 0, .int .i64 0], .bool false]) (by simp [results, Tryz.results6, go_sem, e0, e1]) rfl ?_
            rw [hG0.out]
            exact ⟨rfl, (hBB.setCell (p := ⟨w.heap.size, 0, none⟩) (Nat.le_refl _) _).setCell (p := ⟨w.heap.size, 1, none⟩) (Nat.le_refl _) _⟩
end Go.Proofs.YthikfinliiaecaaGreatDoor

