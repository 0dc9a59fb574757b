/-
  The specification's WirePut.
  The law FnWirePut.
-/
import Derived.Test.YtkollpgacheeoaaGreatDoorWiSpecB
import Derived.Test.YtkollpgacheeoaaGreatDoorWpAll32
import Derived.Test.YtkollpgacheeoaaGreatDoorWgGet
import Derived.Test.YtkollpgacheeoaaGreatDoorWpAll41
import Derived.Test.YtkollpgacheeoaaGreatDoorWpAll31
import Derived.Deep.RegionHeld3
import Derived.Deep.Cut
import Derived.Deep.QuietTactic
import Derived.BigQuiet
namespace Go.Proofs.YtkollpgacheeoaaGreatDoor
open Go.RowKit

theorem wi_two {w w' : World} {b : Nat} {x y : Value} (h0 : w.cell? ⟨b, 0, none⟩ = some x) (h1 : w.cell? ⟨b, 1, none⟩ = some y) (hb : Below w.heap.size w w') : w'.cell? ⟨b, 0, none⟩ = some x ∧ w'.cell? ⟨b, 1, none⟩ = some y := by
  have hlt : ∀ {j : Nat} {z : Value}, w.cell? ⟨b, j, none⟩ = some z → b < w.heap.size := fun {j z} h => by
    unfold World.cell? at h
    rcases Nat.lt_or_ge b w.heap.size with h' | h'
    · exact h'
    · simp [Array.getElem?_eq_none h'] at h
  exact ⟨by rw [hb.cell (hlt h0)]; exact h0, by rw [hb.cell (hlt h1)]; exact h1⟩
set_option maxRecDepth 100000 in
set_option maxHeartbeats 4000000 in
theorem spec_WirePut (cs : List Ce) (hn : cs.length ≤ 1048576) (d : Wd) (v : Value) (w : World) (hv : Cells w (· < w.heap.size) cs v) :
    Calls Tryz.prog 6 #[v, .agg #[.int .i64 d.tag, .int .i64 d.num]] w fun r w' => r = .returned (.string (bx (wireM cs d))) ∧ Below w.heap.size w w' := by
  obtain ⟨a, cap, rfl⟩ := hv.slice
  have hB1 : ∀ o, Below w.heap.size w (w.alloc o) := fun o => (Below.refl _ _).alloc (Nat.le_refl _) o
  have hO := fun o => ho_l7Ok cs hn _ (w.alloc o) (hv.keep (hB1 o) (by simp))
  have hWo := fun w' => ho_l7WordOk cs.length (by omega) d.tag d.num w'
  have hcell : ∀ {w2 : World} {o : Obj}, o = .cells #[.int .i64 d.tag, .int .i64 d.num] 25 → Below (w.alloc o).heap.size (w.alloc o) w2 → w2.cell? ⟨w.heap.size, 0, none⟩ = some (.int .i64 d.tag) ∧ w2.cell? ⟨w.heap.size, 1, none⟩ = some (.int .i64 d.num) := fun ho hb => by
    subst ho
    rw [hb.cell (by simp), hb.cell (by simp)]
    simp [go_sem]
  by_cases hh : heapM cs = true
  case neg =>
    have e3 : wireM cs d = [] := by rw [wireM, if_neg (fun h => hh h.1)]
    rw [e3]
    rw [Bool.eq_false_iff.2 hh] at hO
    go_enter Tryz.func6, Tryz.ntmps6
    go_wp2_with (go_at_call 19; refine (hO _).mono ?_; rintro e w2 ⟨rfl, hb2⟩)
    go_ret
    exact ⟨rfl, (hB1 _).trans (hb2.mono (by simp))⟩
  rw [hh] at hO
  by_cases hw : wordP cs.length d.tag d.num
  case neg =>
    have e3 : wireM cs d = [] := by rw [wireM, if_neg (fun h => hw (words_one_iff.1 h.2))]
    rw [e3]
    rw [decide_eq_false hw] at hWo
    clear hh
    go_enter Tryz.func6, Tryz.ntmps6
    go_wp2_with (first
      | (go_at_call 19; refine (hO _).mono ?_; rintro e w2 ⟨rfl, hb2⟩; obtain ⟨p0, p1⟩ := hcell rfl hb2; have hB2 := (hB1 _).trans (hb2.mono (by simp)); clear hb2)
      | (go_at_call 20; refine (hWo _).mono ?_; rintro e w3 ⟨rfl, hb3⟩))
    go_ret
    exact ⟨rfl, hB2.trans (hb3.mono hB2.size)⟩
  rw [decide_eq_true hw] at hWo
  have hok : okW cs d := ⟨hh, words_one_iff.2 hw⟩
  obtain ⟨x, ex, hheap, hwp⟩ := wire_yes hok
  have e3 : wireM cs d = wireT (cleanC cs [d]) x := by rw [wireM, if_pos hok, ex]; rfl
  rw [e3]
  have e1 : cleanC cs [d] = (copyS cs [] [d]).to := by rw [cleanC]; exact if_pos hok
  have e2 : cleanW cs [d] = wordsW cs (st0 cs []) [d] := by rw [cleanW]; exact if_pos hok
  rw [e2] at ex
  rw [e1] at hheap hwp ⊢
  have hfine := cell_fine hheap
  have h120 : (copyS cs [] [d]).to.length ≤ 120 := (heap_refs hheap).1
  have hxf := word_fine (by omega) hwp
  obtain ⟨hcl, hrefs⟩ := heap_refs hh
  have hwr := words_refs hok.2
  have HCopy := fun w' hc hl => copy_rest cs [] [d] (by omega) (by simp) (by simp) hwr hrefs w' a none cap 0 (.slice (some ⟨w'.heap.size - 1, 0, none⟩) 1 1) hc (RowOf.nil _ _) hl
  have HPut := fun v' w' h => spec_l12Put (copyS cs [] [d]).to h120 hfine x hxf v' w' h
  go_enter Tryz.func6, Tryz.ntmps6
  go_upto_region 3 with (first
    | (go_at_call 19; refine (hO _).mono ?_; rintro e w2 ⟨rfl, hb2⟩; obtain ⟨p0, p1⟩ := hcell rfl hb2; have hB2 := (hB1 _).trans (hb2.mono (by simp)); clear hb2)
    | (go_at_call 20; refine (hWo _).mono ?_; rintro e w3 ⟨rfl, hb3⟩; obtain ⟨q0, q1⟩ := wi_two p0 p1 hb3; have hB3 := hB2.trans (hb3.mono hB2.size)))
  clear p0 p1 hb3 hB2 hO hWo hcell
  have hB4 : Below w.heap.size w (w3.alloc (.cells #[.int .i64 d.tag, .int .i64 d.num] 25)) := hB3.alloc hB3.size _
  have HC := HCopy (w3.alloc (.cells #[.int .i64 d.tag, .int .i64 d.num] 25)) (hv.keep hB4 hB4.size) (by simpa using wi_lit w3 d)
  rw [show (w3.alloc (.cells #[.int .i64 d.tag, .int .i64 d.num] 25)).heap.size - 1 = w3.heap.size by simp] at HC
  clear HCopy
  unfold CopyP at HC
  rw [ex] at HC
  go_wp2_with (first
    | (go_at_call 21; refine HC.mono ?_; rintro e w4 ⟨vt, v2, rfl, hO1, hO2, hb4⟩; have hC4 := wi_cells hO1; (obtain ⟨a1, c1, rfl⟩ := hC4.slice); (obtain ⟨a2, c2, rfl⟩ := (wi_words hO2).slice); (obtain ⟨xb, xo, hxb, rfl, xr⟩ := (wi_words hO2).at 0 (by simp)); (obtain ⟨x0, x1⟩ := Wd.two xr); rw [Nat.zero_mul] at x0 x1; simp only [Nat.add_zero] at x0 x1)
    | (go_at_call 22; refine (HPut _ _ hC4).mono ?_; rintro e w5 ⟨rfl, hb5⟩))
  go_ret
  exact ⟨rfl, wi_next (hB4.trans (hb4.mono hB4.size)) hb5⟩
end Go.Proofs.YtkollpgacheeoaaGreatDoor

namespace Go.Proofs.YtkollpgacheeoaaGreatDoor
open Go.RowKit

theorem wp_keepW {w w' : World} {b : Nat} {d : Wd} (h : w.heap[b]? = some (boxV d)) (hb : Below w.heap.size w w') : w'.heap[b]? = some (boxV d) := (hb.block b (Array.getElem?_eq_some_iff.1 h).1).trans h
set_option maxRecDepth 100000 in
set_option maxHeartbeats 1000000 in
theorem law_FnWirePut (len : Nat) (w : World) (v : Value) (hv : Bytes w w.heap.size len v) (hT : PowTab w) (hC : CTab w) (hR : RTab w) :
    Calls Tryz.prog 3 #[v] w fun e w' => e = .returned (.bool true) ∧ Below w.heap.size w w' := by
  have hv0 := hv
  obtain ⟨a, cap, rfl, h1, h2, h3⟩ := hv
  clear h3
  unfold maxLen at h2
  by_cases hbig : 1048576 < len
  · have hi : (1048576 : Int) < (len : Int) := by omega
    go_enter Tryz.func3, Tryz.ntmps3
    go_wp2_with fail
    go_ret
    exact ⟨rfl, Below.refl _ _⟩
  have hi : ¬ (1048576 : Int) < (len : Int) := by omega
  go_enter Tryz.func3, Tryz.ntmps3
  go_upto_region 4 with (go_at_call 4; refine (spec_DrawWirePut _ len _ hv0).mono ?_; rintro e w1 ⟨cs, d, vc, rfl, hcl, hCs, hB1⟩)
  clear hv0 hi h1 h2 hbig
  obtain ⟨ca, ccap, rfl⟩ := hCs.slice
  have hW1 : (w1.alloc (boxV d)).heap[w1.heap.size]? = some (boxV d) := heap_alloc_new w1 _
  have hB11 : Below w.heap.size w (w1.alloc (boxV d)) := wi_next hB1 (wg_new _ _)
  have hC11 : Cells (w1.alloc (boxV d)) (· < (w1.alloc (boxV d)).heap.size) cs (.slice ca cs.length ccap) := hCs.keep (wg_new _ _) (by simp)
  change Code.wp _ _ _ _ (w1.alloc (boxV d))
  generalize hWW : w1.alloc (boxV d) = W1 at *
  have KB : Hid (∀ w', Below W1.heap.size W1 w' → ((w'.cell? ⟨w1.heap.size, 0, none⟩ = some (.int .i64 d.tag) ∧ w'.cell? ⟨w1.heap.size, 1, none⟩ = some (.int .i64 d.num)) ∧ Cells w' (· < w'.heap.size) cs (.slice ca cs.length ccap) ∧ PowTab w' ∧ CTab w' ∧ RTab w' ∧ Below w.heap.size w w')) := fun w' h =>
    ⟨(boxV_two (wp_keepW hW1 h)).1, hC11.keep h h.size, hT.keep (wi_next hB11 h), hC.below (wi_next hB11 h) hC.pos, hR.keep (wi_next hB11 h), wi_next hB11 h⟩
  have HI := fun w' (h : Below W1.heap.size W1 w') => impl_WirePut cs (by omega) d _ w' (KB.out w' h).2.1 (KB.out w' h).2.2.1 (KB.out w' h).2.2.2.1
  have HS := fun w' (h : Below W1.heap.size W1 w') => spec_WirePut cs (by omega) d _ w' (KB.out w' h).2.1
  have hl8 := wire_len' (cs := cs) (d := d)
  have HG := fun w' (h : Below W1.heap.size W1 w') => impl_WireGet (wireM cs d) (by omega) w' (KB.out w' h).2.2.1 (KB.out w' h).2.2.2.1 (KB.out w' h).2.2.2.2.1
  have hr : Below W1.heap.size W1 W1 := Below.refl _ _
  obtain ⟨⟨c0, c1⟩, _⟩ := KB.out W1 hr
  clear hCs hB1 hW1 hB11 hC11 hWW hT hC hR
  by_cases hok : okW cs d
  case neg =>
    have he := wire_none hok
    rw [he] at HI HS
    have HI' : ∀ w', Below W1.heap.size W1 w' → Calls Tryz.prog 5 #[.slice ca cs.length ccap, .agg #[.int .i64 d.tag, .int .i64 d.num]] w' fun r w2 => r = .returned (.string ⟨#[]⟩) ∧ Below w'.heap.size w' w2 := HI
    have HS' : ∀ w', Below W1.heap.size W1 w' → Calls Tryz.prog 6 #[.slice ca cs.length ccap, .agg #[.int .i64 d.tag, .int .i64 d.num]] w' fun r w2 => r = .returned (.string ⟨#[]⟩) ∧ Below w'.heap.size w' w2 := HS
    clear HI HS HG hl8 he hok
    go_wp2_with (first
      | (go_at_call 5; refine (HI' _ hr).mono ?_; rintro e w2 ⟨rfl, hb2⟩; have hE2 := wi_next hr hb2; clear c0 c1; (obtain ⟨⟨c0, c1⟩, _⟩ := KB.out _ hE2))
      | (go_at_call 6; first
        | (refine (HS' _ hE3).mono ?_; rintro e w4 ⟨rfl, hb4⟩; have hE4 := wi_next hE3 hb4)
        | (refine (HS' _ hE2).mono ?_; rintro e w3 ⟨rfl, hb3⟩; have hE3 := wi_next hE2 hb3; clear c0 c1; (obtain ⟨⟨c0, c1⟩, _⟩ := KB.out _ hE3))))
    go_ret
    exact ⟨rfl, (KB.out _ hE4).2.2.2.2.2⟩
  have hne := wire_ne hok
  have hback := wire_back hok
  have hsame := wire_same hok
  have hch := clean_head hok
  have HCl := fun w' (h : Below W1.heap.size W1 w') (vw : Value) (hw : Words w' (· < w'.heap.size) [d] vw) => impl_HeapClean cs (by omega) [d] (by simp) _ vw w' (KB.out w' h).2.1 hw
  rw [hch] at HCl
  have hCL : (cleanC cs [d]).length ≤ 120 := (heap_refs (clean_yes hok.1 hok.2).1).1
  have HX1 := fun w' (vv : Value) (h : Cells w' (· < w'.heap.size) (cleanC cs [d]) vv) (hp : PowTab w') => impl_HeapText (cleanC cs [d]) (by omega) vv (headW cs d).tag (headW cs d).num w' h hp
  have HX2 := fun w' (h : Below W1.heap.size W1 w') => impl_HeapText cs (by omega) _ d.tag d.num w' (KB.out w' h).2.1 (KB.out w' h).2.2.1
  rw [hsame] at HX1
  generalize cleanC cs [d] = C at *
  generalize headW cs d = x at *
  generalize hLL : wireM cs d = L at *
  have hqs : ((bx L).toList != (bx L).toList) = false := by simp
  have hqe : ((bx L).toList == []) = false := by rw [bx_toList]; simpa using hne
  have hsz : (bx L).size = L.length := bx_size L
  have hHG : Hid (L.length ≤ 4000 → getW L = some (C, x)) := hback
  by_cases h4 : L.length ≤ 4000
  · have hg := hback h4
    rw [hg] at HG
    have h4i : decide ((4000 : Int) < ((bx L).size : Int)) = false := decide_eq_false (by omega)
    clear hne hback hch hsame hl8 hg hHG hok hLL hsz
    generalize bx L = tl at *
    have HD4 : Hid _ := h4i
    clear h4i
    go_upto_region 8 with (first
      | (go_at_call 5; refine (HI _ hr).mono ?_; rintro e w2 ⟨rfl, hb2⟩; have hE2 := wi_next hr hb2; clear c0 c1; (obtain ⟨⟨c0, c1⟩, _⟩ := KB.out _ hE2))
      | (go_at_call 6; refine (HS _ hE2).mono ?_; rintro e w3 ⟨rfl, hb3⟩; have hE3 := wi_next hE2 hb3; clear c0 c1; (obtain ⟨⟨c0, c1⟩, _⟩ := KB.out _ hE3))
      | (go_at_call 7; refine (HG _ hE3).mono ?_; rintro e w4 ⟨⟨v4, rfl, hO4⟩, hb4⟩; have hE4 := wi_next hE3 hb4))
    have hW4 : (w4.alloc (boxV x)).heap[w4.heap.size]? = some (boxV x) := heap_alloc_new w4 _
    have hE5 : Below W1.heap.size W1 (w4.alloc (boxV x)) := wi_next hE4 (wg_new _ _)
    have hC4 : Cells (w4.alloc (boxV x)) (· < (w4.alloc (boxV x)).heap.size) C v4 := (wi_cells hO4).keep (wg_new _ _) (by simp)
    have hz4 : (w4.alloc (boxV x)).heap.size = w4.heap.size + 1 := by simp
    obtain ⟨a4, cap4, rfl⟩ := (wi_cells hO4).slice
    clear hO4 hE4 hb4 hb3 hb2 hE2 HI HS HG hqs hqe
    change Code.wp _ _ _ _ (w4.alloc (boxV x))
    generalize w4.alloc (boxV x) = W4 at *
    have KX : Hid (∀ w', Below W4.heap.size W4 w' → (w'.cell? ⟨w4.heap.size, 0, none⟩ = some (.int .i64 x.tag) ∧ w'.cell? ⟨w4.heap.size, 1, none⟩ = some (.int .i64 x.num)) ∧ Cells w' (· < w'.heap.size) C (.slice a4 C.length cap4)) := fun w' h => ⟨(boxV_two (wp_keepW hW4 h)).1, hC4.keep h h.size⟩
    have hE6 : Below W1.heap.size W1 (W4.alloc (boxV d)) := wi_next hE5 (wg_new _ _)
    have HCl4 := HCl _ hE6 _ (wi_lit W4 d)
    rw [hz4] at HCl4
    clear c0 c1
    obtain ⟨⟨c0, c1⟩, _⟩ := KB.out _ hE5
    clear HCl hW4 hC4
    go_upto_region 9 with (go_at_call 8; refine HCl4.mono ?_; rintro e w5 ⟨⟨v5, v6, rfl, hO5, hO6, hb5⟩, _⟩)
    have hF5 : Below W4.heap.size W4 w5 := wi_next (wg_new _ _) hb5
    have hE7 : Below W1.heap.size W1 w5 := wi_next hE5 hF5
    obtain ⟨a6, cap6, rfl⟩ := (wi_words hO6).slice
    obtain ⟨xb, xo, hxb, rfl, xr⟩ := (wi_words hO6).at 0 (by simp)
    obtain ⟨a5, cap5, rfl⟩ := (wi_cells hO5).slice
    have hC5 := wi_cells hO5
    have KS : Hid (∀ w', Below w5.heap.size w5 w' → (w'.cell? ⟨w4.heap.size, 0, none⟩ = some (.int .i64 x.tag) ∧ w'.cell? ⟨w4.heap.size, 1, none⟩ = some (.int .i64 x.num) ∧ w'.cell? ⟨xb, xo, none⟩ = some (.int .i64 x.tag) ∧ w'.cell? ⟨xb, xo + 1, none⟩ = some (.int .i64 x.num) ∧ w'.cell? ⟨w1.heap.size, 0, none⟩ = some (.int .i64 d.tag) ∧ w'.cell? ⟨w1.heap.size, 1, none⟩ = some (.int .i64 d.num))) := fun w' h => by
      obtain ⟨⟨k0, k1⟩, _⟩ := KX.out _ (wi_next hF5 h)
      obtain ⟨⟨k2, k3⟩, _⟩ := KB.out _ (wi_next hE7 h)
      obtain ⟨k4, k5⟩ := Wd.two (rw_same (h.block xb hxb) xr)
      rw [Nat.zero_mul] at k4 k5
      exact ⟨k0, k1, k4, k5, k2, k3⟩
    have hD : Below w5.heap.size w5 w5.drew := (Below.refl _ _).drew
    have HEn := fun w' (h : Below w5.heap.size w5 w') => law_enCells C (by omega) _ _ w' _ _ (KX.out _ (wi_next hF5 h)).2 (hC5.keep h h.size)
    have HT1 := fun w' (h : Below w5.heap.size w5 w') => HX1 w' _ (KX.out _ (wi_next hF5 h)).2 (KB.out _ (wi_next hE7 h)).2.2.1
    have HT2 := fun w' (h : Below w5.heap.size w5 w') => HX2 w' (wi_next hE7 h)
    have hend : ∀ w', Below w5.heap.size w5 w' → Below w.heap.size w w' := fun w' h => (KB.out _ (wi_next hE7 h)).2.2.2.2.2
    clear hxb xr hb5 hO5 hO6 hC5 HX1 HX2 HCl4 KB KX
    generalize writeM cs d.tag d.num = tx at *
    have htt : (tx.toList == tx.toList) = true := by simp
    obtain ⟨k0, k1, k2, k3, k4, k5⟩ := KS.out w5 (Below.refl _ _)
    have h4d := HD4.out
    go_region_held3 (fun w' => w'.cell? ⟨w4.heap.size, 0, none⟩ = some (.int .i64 x.tag) ∧ w'.cell? ⟨w4.heap.size, 1, none⟩ = some (.int .i64 x.num) ∧ w'.cell? ⟨xb, xo, none⟩ = some (.int .i64 x.tag) ∧ w'.cell? ⟨xb, xo + 1, none⟩ = some (.int .i64 x.num) ∧ w'.cell? ⟨w1.heap.size, 0, none⟩ = some (.int .i64 d.tag) ∧ w'.cell? ⟨w1.heap.size, 1, none⟩ = some (.int .i64 d.num))
      (first | exact KS.out _ hD | exact KS.out _ hD6 | exact KS.out _ hD7 | exact KS.out _ hD8)
      (first
        | (go_at_call 9; refine (HEn _ hD).mono ?_; rintro e w6 ⟨rfl, hb6⟩; have hD6 := wi_next hD hb6)
        | (go_at_call_of 10 x.tag; refine (HT1 _ hD6).mono ?_; rintro e w7 ⟨rfl, hb7⟩; have hD7 := wi_next hD6 hb7)
        | (go_at_call_of 10 d.tag; refine (HT2 _ hD7).mono ?_; rintro e w8 ⟨rfl, hb8⟩; have hD8 := wi_next hD7 hb8))
    all_goals
      go_wp2_with fail
      go_ret
      exact ⟨rfl, hend _ hD8⟩
  · have hg : getW L = none := if_neg (fun h => h4 h.2.1)
    rw [hg] at HG
    have h4i : decide ((4000 : Int) < ((bx L).size : Int)) = true := decide_eq_true (by omega)
    clear hne hback hch hsame hl8 hg hHG hok hLL hsz h4
    generalize bx L = tl at *
    have HD4 : Hid _ := h4i
    clear h4i
    go_upto_region 8 with (first
      | (go_at_call 5; refine (HI _ hr).mono ?_; rintro e w2 ⟨rfl, hb2⟩; have hE2 := wi_next hr hb2; clear c0 c1; (obtain ⟨⟨c0, c1⟩, _⟩ := KB.out _ hE2))
      | (go_at_call 6; refine (HS _ hE2).mono ?_; rintro e w3 ⟨rfl, hb3⟩; have hE3 := wi_next hE2 hb3; clear c0 c1; (obtain ⟨⟨c0, c1⟩, _⟩ := KB.out _ hE3))
      | (go_at_call 7; refine (HG _ hE3).mono ?_; rintro e w4 ⟨rfl, hb4⟩; have hE4 := wi_next hE3 hb4))
    have hE5 : Below W1.heap.size W1 (w4.alloc (boxV ⟨0, 0⟩)) := wi_next hE4 (wg_new _ _)
    have hz4 : (w4.alloc (boxV ⟨0, 0⟩)).heap.size = w4.heap.size + 1 := by simp
    clear hE4 hb4 hb3 hb2 hE2 HI HS HG hqs hqe
    change Code.wp _ _ _ _ (w4.alloc (boxV ⟨0, 0⟩))
    generalize w4.alloc (boxV ⟨0, 0⟩) = W4 at *
    have hE6 : Below W1.heap.size W1 (W4.alloc (boxV d)) := wi_next hE5 (wg_new _ _)
    have HCl4 := HCl _ hE6 _ (wi_lit W4 d)
    rw [hz4] at HCl4
    clear c0 c1
    obtain ⟨⟨c0, c1⟩, _⟩ := KB.out _ hE5
    clear HCl
    go_upto_region 9 with (go_at_call 8; refine HCl4.mono ?_; rintro e w5 ⟨⟨v5, v6, rfl, hO5, hO6, hb5⟩, _⟩)
    have hE7 : Below W1.heap.size W1 w5 := wi_next hE5 (wi_next (wg_new _ _) hb5)
    have hend := (KB.out _ hE7).2.2.2.2.2
    clear hb5 hO5 hO6 HX1 HX2 HCl4 KB c0 c1
    have h4d := HD4.out
    go_quiet (fail)
    go_wp2_with fail
    go_ret
    exact ⟨rfl, ho_drewN hend _⟩
end Go.Proofs.YtkollpgacheeoaaGreatDoor

