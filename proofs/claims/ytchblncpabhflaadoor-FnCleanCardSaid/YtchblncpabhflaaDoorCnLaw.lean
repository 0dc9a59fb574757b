/-
  The law FnClean.
-/
import Derived.Test.YtchblncpabhflaaDoorRdClean
import Derived.Test.YtchblncpabhflaaDoorCnTop
import Derived.Test.YtchblncpabhflaaDoorMeCells
import Derived.Test.YtchblncpabhflaaDoorMeWords
import Derived.Test.YtchblncpabhflaaDoorHrImpl
import Derived.Deep.RegionHeld3
namespace Go.Proofs.YtchblncpabhflaaDoor
open Go.RowKit

theorem own_cells {w : World} {B : Nat} {l : List Ce} {v : Value} (h : w.ownsRow B 45 6 v l.length (l.flatMap Ce.cells)) : Cells w (· < w.heap.size) l v := (OwnR.row (α := Ce) (f := Ce.cells) h (fun _ => rfl)).same fun _ hb => ⟨rfl, hb.2⟩
theorem own_words {w : World} {B : Nat} {l : List Wd} {v : Value} (h : w.ownsRow B 32 2 v l.length (l.flatMap Wd.cells)) : Words w (· < w.heap.size) l v := (OwnR.row (α := Wd) (f := Wd.cells) h (fun _ => rfl)).same fun _ hb => ⟨rfl, hb.2⟩
theorem own_slice {w : World} {B n s : Nat} {e : TypeId} {v : Value} {xs : List Value} (h : w.ownsRow B e s v n xs) : ∃ a c, v = .slice a n c := by
  rcases h.2 with ⟨rfl, hn⟩ | ⟨g, c, cur, rfl, _⟩
  · rw [hn]; exact ⟨none, 0, rfl⟩
  · exact ⟨_, c, rfl⟩

set_option maxRecDepth 100000 in
set_option maxHeartbeats 4000000 in
theorem law_FnClean (len : Nat) (w : World) (v : Value) (hv : Bytes w w.heap.size len v) (hT : PowTab w) :
    Calls Tryd.prog 3 #[v] w fun e w' => e = .returned (.bool true) ∧ Below w.heap.size w w' := by
  have hv0 := hv
  obtain ⟨a, cap, rfl, h1, h2, h3⟩ := hv
  clear h3
  unfold maxLen at h2
  by_cases hbig : 1048576 < len
  · have hi : (1048576 : Int) < (len : Int) := by omega
    go_enter Tryd.func3, Tryd.ntmps3
    go_wp2_with fail
    go_ret
    exact ⟨rfl, Below.refl _ _⟩
  have hi : ¬ (1048576 : Int) < (len : Int) := by omega
  go_enter Tryd.func3, Tryd.ntmps3
  go_upto_region 4 with (go_at_call 4; refine (spec_DrawHeapClean _ len _ hv0).mono ?_; rintro e w1 ⟨cs, ws, vc, vw, rfl, hcl, hwl, hC, hW, _, hB1⟩)
  clear hv0 hi
  obtain ⟨ca, ccap, rfl⟩ := hC.slice
  obtain ⟨wa, wcap, rfl⟩ := hW.slice
  have hT1 : PowTab w1 := hT.keep hB1
  have HI := fun w' (hc : Cells w' (· < w'.heap.size) cs (.slice ca cs.length ccap)) (hl : Words w' (· < w'.heap.size) ws (.slice wa ws.length wcap)) => impl_HeapClean cs (by omega) ws (by omega) _ _ w' hc hl
  have HS := fun w' (hc : Cells w' (· < w'.heap.size) cs (.slice ca cs.length ccap)) (hl : Words w' (· < w'.heap.size) ws (.slice wa ws.length wcap)) => spec_HeapClean cs (by omega) ws (by omega) _ _ w' hc hl
  have FY := @clean_yes cs ws
  have FN := @clean_no cs ws
  have hCL : (cleanC cs ws).length ≤ 120 := by
    by_cases hx : heapM cs = true ∧ wordsM cs.length ws = true
    · have := (heap_refs (FY hx.1 hx.2).1).1
      exact this
    · rw [(FN hx).1]; exact Nat.zero_le _
  have hWL : (cleanW cs ws).length ≤ 4 := by
    by_cases hx : heapM cs = true ∧ wordsM cs.length ws = true
    · rw [(FY hx.1 hx.2).2.2.1]; exact hwl
    · rw [(FN hx).2]; exact Nat.zero_le _
  generalize cleanC cs ws = C at *
  generalize cleanW cs ws = X at *
  go_upto_region 6 with (first
    | (go_at_call 5; refine (HI _ hC hW).mono ?_; rintro e w2 ⟨⟨v1, v2, rfl, hO1, hO2, hb2⟩, _⟩)
    | (go_at_call 6; refine (HS _ (hC.keep hb2 hb2.size) (hW.keep hb2 hb2.size)).mono ?_; rintro e w3 ⟨v3, v4, rfl, hO3, hO4, hb3⟩))
  have hE3 := hc_next hb2 hb3
  have KC : Hid (∀ w', Below w3.heap.size w3 w' → Cells w' (· < w'.heap.size) C v1) := fun w' h => own_cells (ow_keep (ow_keep hO1 hb3) h)
  have KX : Hid (∀ w', Below w3.heap.size w3 w' → Words w' (· < w'.heap.size) X v2) := fun w' h => own_words (ow_keep (ow_keep hO2 hb3) h)
  have KD : Hid (∀ w', Below w3.heap.size w3 w' → Cells w' (· < w'.heap.size) C v3) := fun w' h => own_cells (ow_keep hO3 h)
  have KY : Hid (∀ w', Below w3.heap.size w3 w' → Words w' (· < w'.heap.size) X v4) := fun w' h => own_words (ow_keep hO4 h)
  have Kc : Hid (∀ w', Below w3.heap.size w3 w' → Cells w' (· < w'.heap.size) cs (.slice ca cs.length ccap)) := fun w' h => (hC.keep hE3 hE3.size).keep h h.size
  have Kw : Hid (∀ w', Below w3.heap.size w3 w' → Words w' (· < w'.heap.size) ws (.slice wa ws.length wcap)) := fun w' h => (hW.keep hE3 hE3.size).keep h h.size
  have KP : Hid (∀ w', Below w3.heap.size w3 w' → PowTab w') := fun w' h => (hT1.keep hE3).keep h
  have hB3 := hc_next hB1 hE3
  obtain ⟨xa, xcap, rfl⟩ := own_slice hO2
  obtain ⟨da, dcap, rfl⟩ := own_slice hO1
  have hR : Below w3.heap.size w3 w3 := Below.refl _ _
  clear hO1 hO2 hO3 hO4 hb2 hb3 hE3 hB1 hT1 hC hW hT HI HS
  by_cases hyes : heapM cs = true ∧ wordsM cs.length ws = true
  case neg =>
    obtain ⟨rfl, rfl⟩ := FN hyes
    clear FY FN
    cases hh : heapM cs
    · go_wp2_with (first
        | (go_at_call 7; first
          | (refine (law_enCells [] (by simp) _ _ _ _ _ (KC.out _ hE6) (KD.out _ hE6)).mono ?_; rintro e w7 ⟨rfl, hb7⟩; have hE7 : Below w3.heap.size w3 w7 := hc_next hE6 hb7)
          | (refine (law_enCells [] (by simp) _ _ _ _ _ (KC.out _ hR) (KD.out _ hR)).mono ?_; rintro e w4 ⟨rfl, hb4⟩; have hE4 : Below w3.heap.size w3 w4 := hc_next hR hb4))
        | (go_at_call 8; first
          | (refine (law_enWords [] (by simp) _ _ _ _ _ (KX.out _ hE7) (KY.out _ hE7)).mono ?_; rintro e w8 ⟨rfl, hb8⟩; have hE8 : Below w3.heap.size w3 w8 := hc_next hE7 hb8)
          | (refine (law_enWords [] (by simp) _ _ _ _ _ (KX.out _ hE4) (KY.out _ hE4)).mono ?_; rintro e w5 ⟨rfl, hb5⟩; have hE5 : Below w3.heap.size w3 w5 := hc_next hE4 hb5))
        | (go_at_call 9; refine (impl_HeapOk cs (by omega) _ _ (Kc.out _ hE5)).mono ?_; rintro e w6 ⟨rfl, hb6⟩; rw [hh]; have hE6 : Below w3.heap.size w3 w6 := hc_next hE5 hb6))
      go_ret
      exact ⟨rfl, hc_next hB3 hE8⟩
    · have hwne : ws.length ≠ 0 := by
        intro e
        rw [List.length_eq_zero_iff.1 e] at hyes
        exact hyes ⟨hh, rfl⟩
      have hne : ((0 : Int) == (ws.length : Int)) = false := by rw [beq_eq_false_iff_ne]; omega
      go_wp2_with (first
        | (go_at_call 7; first
          | (refine (law_enCells [] (by simp) _ _ _ _ _ (KC.out _ hE6) (KD.out _ hE6)).mono ?_; rintro e w7 ⟨rfl, hb7⟩; have hE7 : Below w3.heap.size w3 w7 := hc_next hE6 hb7)
          | (refine (law_enCells [] (by simp) _ _ _ _ _ (KC.out _ hR) (KD.out _ hR)).mono ?_; rintro e w4 ⟨rfl, hb4⟩; have hE4 : Below w3.heap.size w3 w4 := hc_next hR hb4))
        | (go_at_call 8; first
          | (refine (law_enWords [] (by simp) _ _ _ _ _ (KX.out _ hE7) (KY.out _ hE7)).mono ?_; rintro e w8 ⟨rfl, hb8⟩; have hE8 : Below w3.heap.size w3 w8 := hc_next hE7 hb8)
          | (refine (law_enWords [] (by simp) _ _ _ _ _ (KX.out _ hE4) (KY.out _ hE4)).mono ?_; rintro e w5 ⟨rfl, hb5⟩; have hE5 : Below w3.heap.size w3 w5 := hc_next hE4 hb5))
        | (go_at_call 9; refine (impl_HeapOk cs (by omega) _ _ (Kc.out _ hE5)).mono ?_; rintro e w6 ⟨rfl, hb6⟩; rw [hh]; have hE6 : Below w3.heap.size w3 w6 := hc_next hE5 hb6))
      go_ret
      exact ⟨rfl, hc_next hB3 hE8⟩
  obtain ⟨f1, f2, f3, f4, f5, f6⟩ := FY hyes.1 hyes.2
  have hh := hyes.1
  clear FY FN hyes
  have H4 : Hid (∀ (i : Nat) (x d : Wd), X[i]? = some x → ws[i]? = some d → x.tag = d.tag ∧ writeM C x.tag x.num = writeM cs d.tag d.num) := f4
  have H2 : Hid ((C.length : Int) = ((reachM cs ws).length : Int)) := by show _ = _; omega
  have H3 : Hid (X.length = ws.length) := f3
  have hlq : ((X.length : Int) != (ws.length : Int)) = false := by rw [bne_eq_false_iff_eq]; omega
  clear f2 f3 f4
  go_upto_if 53 with (first
    | (go_at_call 7; refine (law_enCells C (by omega) _ _ _ _ _ (KC.out _ hR) (KD.out _ hR)).mono ?_; rintro e w4 ⟨rfl, hb4⟩; have hE4 : Below w3.heap.size w3 w4 := hc_next hR hb4)
    | (go_at_call 8; refine (law_enWords X (by omega) _ _ _ _ _ (KX.out _ hE4) (KY.out _ hE4)).mono ?_; rintro e w5 ⟨rfl, hb5⟩; have hE5 : Below w3.heap.size w3 w5 := hc_next hE4 hb5)
    | (go_at_call 9; refine (impl_HeapOk cs (by omega) _ _ (Kc.out _ hE5)).mono ?_; rintro e w6 ⟨rfl, hb6⟩; rw [hh]; have hE6 : Below w3.heap.size w3 w6 := hc_next hE5 hb6))
  clear hE4 hE5 hb4 hb5 hb6 KD KY
  go_wp2_with fail
  go_loopg [9] ws.length (fun k i wr => ∃ j : Nat, j + k = ws.length ∧ i = .int .i64 (j : Int) ∧ Below w3.heap.size w3 wr)
  case atStart => exact ⟨0, by omega, rfl, hE6⟩
  case round =>
    clear hE6
    obtain ⟨j, hj, rfl, hEr⟩ := hrel
    by_cases hlt : j < ws.length
    · have hlx : j < X.length := by rw [H3.out]; exact hlt
      obtain ⟨b1, o1, _, rfl, r1⟩ := (KX.out _ hEr).at j hlx
      obtain ⟨b2, o2, _, rfl, r2⟩ := (Kw.out _ hEr).at j hlt
      obtain ⟨ht, hwr⟩ := H4.out j _ _ (List.getElem?_eq_getElem hlx) (List.getElem?_eq_getElem hlt)
      have hji : (j : Int) < (ws.length : Int) := by omega
      have hjx : (j : Int) < (X.length : Int) := by omega
      generalize X[j] = x at *
      generalize ws[j] = d at *
      obtain ⟨xt, xn⟩ := x
      obtain ⟨dt, dn⟩ := d
      have ht' : xt = dt := ht
      subst ht'
      obtain ⟨c0, c1⟩ := Wd.two r1
      obtain ⟨d0, d1⟩ := Wd.two r2
      have HK : Hid (∀ w', Below wr.heap.size wr w' → (w'.cell? ⟨b1, o1 + j * 2, none⟩ = some (.int .i64 xt) ∧ w'.cell? ⟨b1, o1 + j * 2 + 1, none⟩ = some (.int .i64 xn) ∧ w'.cell? ⟨b2, o2 + j * 2, none⟩ = some (.int .i64 xt) ∧ w'.cell? ⟨b2, o2 + j * 2 + 1, none⟩ = some (.int .i64 dn))) := by
        intro w' h
        obtain ⟨a1, p1, hb1, e1, q1⟩ := (KX.out _ hEr).at j hlx
        obtain ⟨a2, p2, hb2, e2, q2⟩ := (Kw.out _ hEr).at j hlt
        obtain ⟨rfl, rfl⟩ : b1 = a1 ∧ o1 = p1 := by simpa using e1
        obtain ⟨rfl, rfl⟩ : b2 = a2 ∧ o2 = p2 := by simpa using e2
        obtain ⟨c0, c1⟩ := Wd.two (rw_same (h.block b1 hb1) r1)
        obtain ⟨d0, d1⟩ := Wd.two (rw_same (h.block b2 hb2) r2)
        exact ⟨c0, c1, d0, d1⟩
      clear r1 r2 c0 c1 d0 d1 ht
      have hD : Below wr.heap.size wr wr.drew := (Below.refl _ _).drew
      have hED : Below w3.heap.size w3 wr.drew := hEr.drew
      go_wp2_with fail
      go_region_held3 (fun w' => w'.cell? ⟨b1, o1 + j * 2, none⟩ = some (.int .i64 xt) ∧ w'.cell? ⟨b1, o1 + j * 2 + 1, none⟩ = some (.int .i64 xn) ∧ w'.cell? ⟨b2, o2 + j * 2, none⟩ = some (.int .i64 xt) ∧ w'.cell? ⟨b2, o2 + j * 2 + 1, none⟩ = some (.int .i64 dn)) (first | exact HK.out _ hF8 | exact HK.out _ hF7 | exact HK.out _ hD | go_keep) (first
        | (go_at_call_of 10 xn; refine (impl_HeapText C (by omega) _ xt xn _ (KC.out _ hED) (KP.out _ hED)).mono ?_; rintro e w7 ⟨rfl, hb7⟩; rw [hwr]; have hE7 : Below w3.heap.size w3 w7 := hc_next hED hb7; have hF7 : Below wr.heap.size wr w7 := hc_next hD hb7)
        | (go_at_call_of 10 dn; refine (impl_HeapText cs (by omega) _ xt dn _ (Kc.out _ hE7) (KP.out _ hE7)).mono ?_; rintro e w8 ⟨rfl, hb8⟩; have hE8 : Below w3.heap.size w3 w8 := hc_next hE7 hb8; have hF8 : Below wr.heap.size wr w8 := hc_next hF7 hb8))
      go_wp2_with fail
      go_roundg (ws.length - (j + 1))
      case measure => omega
      case rel => exact ⟨j + 1, by omega, by go_num, hE8⟩
    · obtain rfl : j = ws.length := by omega
      have hji : ¬ (ws.length : Int) < (ws.length : Int) := by omega
      have H5 := fun w' (hc : Cells w' (· < w'.heap.size) C (.slice da C.length dcap)) (hl : Words w' (· < w'.heap.size) X (.slice xa X.length xcap)) => impl_HeapClean C (by omega) X (by omega) _ _ w' hc hl
      rw [f5, f6] at H5
      have HE : ((C.length : Int) == ((reachM cs ws).length : Int)) = true := by rw [H2.out]; exact beq_self_eq_true _
      have hwl' : ws.length ≤ 1048576 := by omega
      go_upto_region 14 with (go_at_call 5; refine (H5 _ (KC.out _ hEr) (KX.out _ hEr)).mono ?_; rintro e w9 ⟨⟨v9, v10, rfl, hO9, hO10, hb9⟩, _⟩; have hE9 : Below w3.heap.size w3 w9 := hc_next hEr hb9)
      have K9 : Hid (∀ w', Below w9.heap.size w9 w' → Cells w' (· < w'.heap.size) C v9) := fun w' h => own_cells (ow_keep hO9 h)
      have K10 : Hid (∀ w', Below w9.heap.size w9 w' → Words w' (· < w'.heap.size) X v10) := fun w' h => own_words (ow_keep hO10 h)
      clear hO9 hO10 H5
      have hG9 : Below w9.heap.size w9 w9 := Below.refl _ _
      go_wp2_with (first
        | (go_at_call 9; refine (impl_HeapOk C (by omega) _ _ (KC.out _ hE9)).mono ?_; rintro e w10 ⟨rfl, hb10⟩; rw [f1]; have hE10 : Below w3.heap.size w3 w10 := hc_next hE9 hb10; have hG10 : Below w9.heap.size w9 w10 := hc_next hG9 hb10)
        | (go_at_call 11; refine (impl_HeapReach cs (by omega) ws (by omega) _ _ _ (Kc.out _ hE10) (Kw.out _ hE10)).mono ?_; rintro e w11 ⟨v11, rfl, hO11, hb11⟩; have hE11 : Below w3.heap.size w3 w11 := hc_next hE10 hb11; have hG11 : Below w9.heap.size w9 w11 := hc_next hG10 hb11; (obtain ⟨a11, cap11, rfl⟩ := own_slice hO11))
        | (go_at_call 7; refine (law_enCells C (by omega) _ _ _ _ _ (K9.out _ hG11) (KC.out _ hE11)).mono ?_; rintro e w12 ⟨rfl, hb12⟩; have hE12 : Below w3.heap.size w3 w12 := hc_next hE11 hb12; have hG12 : Below w9.heap.size w9 w12 := hc_next hG11 hb12)
        | (go_at_call 8; refine (law_enWords X (by omega) _ _ _ _ _ (K10.out _ hG12) (KX.out _ hE12)).mono ?_; rintro e w13 ⟨rfl, hb13⟩; have hE13 : Below w3.heap.size w3 w13 := hc_next hE12 hb13))
      go_ret
      exact ⟨rfl, hc_next hB3 hE13⟩
end Go.Proofs.YtchblncpabhflaaDoor
