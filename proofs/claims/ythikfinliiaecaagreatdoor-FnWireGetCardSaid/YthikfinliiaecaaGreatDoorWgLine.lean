/-
  The program's wordKind, lineCell.
-/
import Derived.Test.YthikfinliiaecaaGreatDoorFgAll40
import Derived.Deep.RegionHeld3
import Derived.Deep.DeepCutAuto
namespace Go.Proofs.YthikfinliiaecaaGreatDoor
open Go.RowKit

theorem index_kind (k : Nat) (hk : k < 5) (w : World) : (Instr.index 106 (.agg kindVals) (.int .i64 (k : Int))).run Tryz.prog w = .ok (.string (bx (kindB ((k : Int) + 1)))) w := by
  rcases (by omega : k = 0 ∨ k = 1 ∨ k = 2 ∨ k = 3 ∨ k = 4) with rfl | rfl | rfl | rfl | rfl <;> kernel_rfl
theorem kindR_none {s : List UInt8} (h : ∀ j : Nat, j < 5 → kindB ((j : Int) + 1) ≠ s) : kindR s = 0 := by
  unfold kindR
  rw [if_neg (fun e => h 0 (by omega) e.symm), if_neg (fun e => h 1 (by omega) e.symm), if_neg (fun e => h 2 (by omega) e.symm), if_neg (fun e => h 3 (by omega) e.symm), if_neg (fun e => h 4 (by omega) e.symm)]
set_option maxRecDepth 100000 in
set_option maxHeartbeats 2000000 in
theorem impl_wordKind (s : List UInt8) (w : World) (hC : CTab w) :
    Calls Tryz.prog 46 #[.string (bx s)] w fun r w' => r = .returned (.int .i64 (kindR s)) ∧ w' = w := by
  obtain ⟨t, ht⟩ : ∃ t, t = bx s := ⟨_, rfl⟩
  have HW : Hid (t.toList = s) := by rw [ht]; exact bx_toList s
  rw [← ht]
  clear ht
  obtain ⟨tt, fr, hg⟩ := hC
  go_enter Tryz.func46, Tryz.ntmps46
  go_wp2_with (refine wpList_load_row rfl 106 _ rfl 0 rfl tt _ fr _ hg Tryz.underlying106 rfl (by kernel_rfl) ?_)
  go_loopg [6] 5 (fun g i wr => ∃ k : Nat, k + g = 5 ∧ i = .int .i64 (k : Int) ∧ Hid (∀ j : Nat, j < k → kindB ((j : Int) + 1) ≠ s) ∧ wr = w)
  case atStart => exact ⟨0, by omega, rfl, (fun j hj => absurd hj (Nat.not_lt_zero _)), rfl⟩
  case round =>
    obtain ⟨k, hk, rfl, hno, rfl⟩ := hrel
    clear hg
    by_cases hlt : k < 5
    · have hki : (k : Int) < 5 := by omega
      have hix := index_kind k hlt
      have wr2 : IntKind.i64.wrap ((k : Int) + 1) = (k : Int) + 1 := ck_wr _ (by omega) (by omega)
      have wr3 : IntKind.i64.wrap (1 + (k : Int)) = (k : Int) + 1 := by rw [Int.add_comm]; exact wr2
      by_cases he : kindB ((k : Int) + 1) = s
      · have hq : ((bx (kindB ((k : Int) + 1))).toList == t.toList) = true := by rw [bx_toList, HW.out, he]; simp
        have hR : Hid (kindR s = (k : Int) + 1) := by rw [← he]; exact kind_own (by omega)
        generalize bx (kindB ((k : Int) + 1)) = tk at hix hq
        clear he hno
        go_wp2_with fail
        go_ret
        exact ⟨congrArg (fun n => Ending.returned (.int .i64 n)) hR.out.symm, rfl⟩
      · have hq : ((bx (kindB ((k : Int) + 1))).toList == t.toList) = false := by rw [bx_toList, HW.out]; simpa using he
        have hno2 : Hid (∀ j : Nat, j < k + 1 → kindB ((j : Int) + 1) ≠ s) := fun j hj => by
          by_cases e : j = k
          · subst e; exact he
          · exact hno.out j (by omega)
        generalize bx (kindB ((k : Int) + 1)) = tk at hix hq
        clear he hno
        go_wp2_with fail
        go_roundg (5 - (k + 1))
        case measure => omega
        case rel => exact ⟨k + 1, by omega, by go_num, hno2, rfl⟩
    · obtain rfl : k = 5 := by omega
      have hR : Hid (kindR s = 0) := kindR_none hno.out
      clear hno
      go_wp2_with fail
      go_ret
      exact ⟨congrArg (fun n => Ending.returned (.int .i64 n)) hR.out.symm, rfl⟩

theorem splitK_le (sep : List UInt8) : ∀ (k : Nat) (s x : List UInt8), x ∈ Lib.splitK sep 0 k s → x.length ≤ s.length
  | 0, s, x, h => by
    have : x = s := by simpa [Lib.splitK] using h
    rw [this]
    exact Nat.le_refl _
  | k + 1, s, x, h => by
    rw [Lib.splitK] at h
    split at h
    · have : x = s := by simpa using h
      rw [this]
      exact Nat.le_refl _
    · rcases List.mem_cons.1 h with rfl | h
      · rw [List.length_take]; omega
      · have := splitK_le sep k _ x h
        rw [List.length_drop] at this
        omega
theorem three_of {l : List (List UInt8)} (h : l.length = 3) : ∃ p q r, l = [p, q, r] := by
  match l, h with
  | [p, q, r], _ => exact ⟨p, q, r, rfl⟩
theorem box_set {w : World} {b : Nat} {c : Ce} (h : w.heap[b]? = some (boxC c)) (e : Ce) : ((((((w.setCell ⟨b, 0, none⟩ (.int .i64 e.kind)).setCell ⟨b, 1, none⟩ (.int .i64 e.num)).setCell ⟨b, 2, none⟩ (.int .i64 e.a.tag)).setCell ⟨b, 3, none⟩ (.int .i64 e.a.num)).setCell ⟨b, 4, none⟩ (.int .i64 e.b.tag)).setCell ⟨b, 5, none⟩ (.int .i64 e.b.num)).heap[b]? = some (boxC e) := by
  unfold World.setCell
  simp only [Array.getElem?_modify, if_true]
  rw [h]
  rfl
theorem box_froz {w : World} {b : Nat} {c : Ce} (h : w.heap[b]? = some (boxC c)) : ∀ o, w.frozen? ⟨b, o, none⟩ = false := fun o => by
  unfold World.frozen?
  rw [h]
  simp
/-- A cell's box, in the world behind a call. -/
theorem box_keep {w w' : World} {b : Nat} {c : Ce} (h : w.heap[b]? = some (boxC c)) (hb : Below w.heap.size w w') : w'.heap[b]? = some (boxC c) := (hb.block b (Array.getElem?_eq_some_iff.1 h).1).trans h
abbrev zeroC : Ce := ⟨0, 0, ⟨0, 0⟩, ⟨0, 0⟩⟩
abbrev boxZ : Obj := .cells #[.int .i64 0, .int .i64 0, .int .i64 0, .int .i64 0, .int .i64 0, .int .i64 0] 48
theorem box_new {w w' : World} (hb : Below (w.alloc boxZ).heap.size (w.alloc boxZ) w') : w'.heap[w.heap.size]? = some (boxC zeroC) := box_keep (heap_alloc_new w boxZ) hb
theorem box_newD {w w' : World} (hb : Below (w.alloc boxZ).drew.heap.size (w.alloc boxZ).drew w') : w'.heap[w.heap.size]? = some (boxC zeroC) := box_keep (w := (w.alloc boxZ).drew) (heap_alloc_new w boxZ) hb
theorem wg_pre {w w' : World} {o : Obj} (h : Below (w.alloc o).heap.size (w.alloc o) w') : Below w.heap.size w w' := wi_next ((Below.refl _ _).alloc (Nat.le_refl _) o) h
theorem wg_new (w : World) (o : Obj) : Below w.heap.size w (w.alloc o) := (Below.refl _ _).alloc (Nat.le_refl _) o
theorem set6 {B b : Nat} {w w4 : World} {v0 v1 v2 v3 v4 v5 : Value} (h : Below B w w4) (hb : B ≤ b) : Below B w ((((((w4.setCell ⟨b, 0, none⟩ v0).setCell ⟨b, 1, none⟩ v1).setCell ⟨b, 2, none⟩ v2).setCell ⟨b, 3, none⟩ v3).setCell ⟨b, 4, none⟩ v4).setCell ⟨b, 5, none⟩ v5) := by
  repeat (refine Below.setCell ?_ (by exact hb) _)
  exact h
theorem drew_new {w : World} {o : Obj} : Below w.heap.size w (w.alloc o).drew := (wg_new w o).drew
theorem wi_new2 {w w2 : World} {o : Obj} (h : Below w.heap.size w w2) : Below w.heap.size w (w2.alloc o) := wi_next h (wg_new _ _)
/-- What the region leaves in which a cell is made. -/
def Made (W0 : World) (c : Ce) (s4 : Value) (wc : World) : Prop := ∃ b, s4 = .pointer (some ⟨b, 0, none⟩) ∧ W0.heap.size ≤ b ∧ wc.heap[b]? = some (boxC c) ∧ Below W0.heap.size W0 wc
theorem made_last {W0 w4 : World} {c : Ce} (h : Below W0.heap.size W0 w4) : Made W0 c (.pointer (some ⟨w4.heap.size, 0, none⟩)) (w4.alloc (boxC c)) := ⟨_, rfl, h.size, heap_alloc_new _ _, h.alloc h.size _⟩
theorem made_set {W0 w4 : World} {c c0 : Ce} {b : Nat} (h : Below W0.heap.size W0 w4) (hb : W0.heap.size ≤ b) (bx : w4.heap[b]? = some (boxC c0)) : Made W0 c (.pointer (some ⟨b, 0, none⟩)) ((((((w4.setCell ⟨b, 0, none⟩ (.int .i64 c.kind)).setCell ⟨b, 1, none⟩ (.int .i64 c.num)).setCell ⟨b, 2, none⟩ (.int .i64 c.a.tag)).setCell ⟨b, 3, none⟩ (.int .i64 c.a.num)).setCell ⟨b, 4, none⟩ (.int .i64 c.b.tag)).setCell ⟨b, 5, none⟩ (.int .i64 c.b.num)) := by
  refine ⟨b, rfl, hb, box_set bx c, ?_⟩
  repeat (refine Below.setCell ?_ (by exact hb) _)
  exact h

/-- The world behind strings.Split: its pieces lie behind a cell's box. -/
structure Cut3 (w : World) (PV : List Value) (w2 : World) : Prop where
  bx0 : w2.heap[w.heap.size]? = some (boxC zeroC)
  below : Below w.heap.size w w2
  row : w2.heap[w.heap.size + 1]? = some (.cells PV.toArray 9)
  size : w.heap.size + 1 < w2.heap.size
theorem Cut3.mk' (w : World) (PV : List Value) : Cut3 w PV ((w.alloc boxZ).alloc (.cells PV.toArray 9)) := by
  refine ⟨box_new (wg_new _ _), wi_next (wg_new _ _) (wg_new _ _), ?_, by simp⟩
  have := heap_alloc_new (w.alloc boxZ) (.cells PV.toArray 9)
  rw [World.size_alloc] at this
  exact this
set_option maxRecDepth 100000 in
set_option maxHeartbeats 8000000 in
theorem impl_lineCell (line : List UInt8) (hl : line.length ≤ 1048576) (w : World) (hC : CTab w) (hR : RTab w) :
    Calls Tryz.prog 19 #[.string (bx line)] w fun r w' => r = .returned (cellR line).val ∧ Below w.heap.size w w' := by
  have hb0 : Below w.heap.size w (w.alloc boxZ) := (Below.refl _ _).alloc (Nat.le_refl _) _
  have hSp := str_split line [32] hl (by simp) (w.alloc boxZ) (hR.keep hb0)
  have hmem : ∀ x ∈ Lib.split line [32], x.length ≤ 1048576 := fun x hx => Nat.le_trans (splitK_le _ _ _ _ hx) hl
  have hv : ∀ j : Nat, (piecesV line [32]).toArray[j]? = ((Lib.split line [32])[j]?).map (fun x => Value.string (bx x)) := fun j => by rw [List.getElem?_toArray]; unfold piecesV; rw [List.getElem?_map]
  have hlp : (piecesV line [32]).length = (Lib.split line [32]).length := by unfold piecesV; simp
  unfold cellR
  generalize Lib.split line [32] = L at *
  generalize (piecesV line [32]) = PV at *
  by_cases h3 : L.length = 3
  case neg =>
    rw [if_neg h3]
    have h3i : ¬ (L.length : Int) = 3 := by omega
    have h3b : ((L.length : Int) != 3) = true := by simpa using h3i
    obtain ⟨ts, hts⟩ : ∃ ts, ts = bx line := ⟨_, rfl⟩
    have hSp' : Calls Tryz.prog 45 #[.string ts, .string ⟨#[32]⟩] (w.alloc boxZ) fun e w' => e = .returned (.slice (some ⟨(w.alloc boxZ).heap.size, 0, none⟩) L.length L.length) ∧ Cut3 w PV w' := by rw [hts]; exact hSp.mono fun e w' ⟨h1, h2⟩ => ⟨h1, by rw [h2]; exact Cut3.mk' w PV⟩
    rw [← hts]
    clear hSp hts hv hmem h3
    go_enter Tryz.func19, Tryz.ntmps19
    go_wp2_with (go_at_call 45; refine hSp'.mono ?_; rintro r w2 ⟨rfl, ⟨bx0, hB2, _, _⟩⟩; have f0 := box_froz bx0; (obtain ⟨c0, c1, c2, c3, c4, c5⟩ := box_six bx0))
    refine bodyPost_ret (v := zeroC.val) (by simp [results, Tryz.results19, go_sem, c0, c1, c2, c3, c4, c5]) rfl ⟨rfl, ?_⟩
    repeat (refine Below.setCell ?_ (by dsimp only; omega) _)
    exact hB2
  rw [if_pos h3]
  obtain ⟨p, q, r, rfl⟩ := three_of h3
  have hq1 : q.length ≤ 1048576 := hmem q (by simp)
  have hr1 : r.length ≤ 1048576 := hmem r (by simp)
  show Calls _ _ _ _ fun e w' => e = .returned (threeR p q r).val ∧ Below w.heap.size w w'
  generalize hRR : threeR p q r = R
  have HRR : Hid ((if kindR p = 4 ∨ kindR p = 5 then (⟨kindR p, (wordR q).num, ⟨0, 0⟩, wordR r⟩ : Ce) else ⟨kindR p, 0, wordR q, wordR r⟩) = R) := hRR
  clear hRR
  obtain ⟨ts, hts⟩ : ∃ ts, ts = bx line := ⟨_, rfl⟩
  have hSp' : Calls Tryz.prog 45 #[.string ts, .string ⟨#[32]⟩] (w.alloc boxZ) fun e w' => e = .returned (.slice (some ⟨(w.alloc boxZ).heap.size, 0, none⟩) 3 3) ∧ Cut3 w PV w' := by rw [hts]; exact hSp.mono fun e w' ⟨h1, h2⟩ => ⟨h1, by rw [h2]; exact Cut3.mk' w PV⟩
  rw [← hts]
  clear hSp hts hmem h3
  go_enter Tryz.func19, Tryz.ntmps19
  go_upto_region 4 with (go_at_call 45; refine hSp'.mono ?_; rintro r w2 ⟨rfl, ⟨bx0, hB2, hrow, hz2⟩⟩)
  clear hSp' hlp
  have HS : ∀ w', Below w2.heap.size w2 w' → w'.cell? ⟨w.heap.size + 1, 0, none⟩ = some (.string (bx p)) ∧ w'.cell? ⟨w.heap.size + 1, 1, none⟩ = some (.string (bx q)) ∧ w'.cell? ⟨w.heap.size + 1, 2, none⟩ = some (.string (bx r)) := fun w' hb => by
    have h5 := (hb.block (w.heap.size + 1) hz2).trans hrow
    exact ⟨by rw [cell_of_row _ _ _ _ _ _ h5, hv]; rfl, by rw [cell_of_row _ _ _ _ _ _ h5, hv]; rfl, by rw [cell_of_row _ _ _ _ _ _ h5, hv]; rfl⟩
  have HK : ∀ w', Below w2.heap.size w2 w' → Calls Tryz.prog 46 #[.string (bx p)] w' fun r w2 => r = .returned (.int .i64 (kindR p)) ∧ Below w'.heap.size w' w2 := fun w' hb => (impl_wordKind p w' (hC.below (wi_next hB2 hb) hC.pos)).mono fun r w2 ⟨h1, h2⟩ => ⟨h1, by rw [h2]; exact Below.refl _ _⟩
  have HQ : ∀ w', Below w2.heap.size w2 w' → _ := fun w' hb => impl_textWord q hq1 w' (hR.keep (wi_next hB2 hb))
  have HT : ∀ w', Below w2.heap.size w2 w' → _ := fun w' hb => impl_textWord r hr1 w' (hR.keep (wi_next hB2 hb))
  have hD0 : Below w2.heap.size w2 w2.drew := (Below.refl _ _).drew
  generalize kindR p = k at *
  generalize wordR q = a at *
  generalize wordR r = b at *
  generalize bx p = tp at *
  generalize bx q = tq at *
  generalize bx r = tr at *
  clear hv hrow hq1 hr1 hC hR hb0
  go_cut [4] (fun s4 wc => Made w2 ⟨k, 0, a, b⟩ s4 wc)
  case first =>
    go_region_held3 (fun w' => w'.cell? ⟨w.heap.size + 1, 0, none⟩ = some (.string tp) ∧ w'.cell? ⟨w.heap.size + 1, 1, none⟩ = some (.string tq) ∧ w'.cell? ⟨w.heap.size + 1, 2, none⟩ = some (.string tr))
      (first | (with_reducible apply HS; with_reducible assumption) | (with_reducible apply HS; with_reducible apply set6 <;> first | with_reducible assumption | omega) | (with_reducible apply HS; with_reducible apply wi_new2; with_reducible assumption) | (with_reducible apply HS; with_reducible exact drew_new) | go_keep)
      (first
        | (go_at_call 46; refine (HK _ (by first | (with_reducible assumption) | with_reducible exact drew_new)).mono ?_; rintro r w3 ⟨rfl, hb3⟩; (try (have hbx : w3.heap[w2.heap.size]? = some (boxC zeroC) := (by with_reducible apply box_newD; with_reducible assumption))); (try (obtain ⟨k0, k1, k2, k3, k4, k5⟩ := box_six hbx; have kf := box_froz hbx)); have hD3 : Below w2.heap.size w2 w3 := (by first | (with_reducible apply wi_next hD0; with_reducible assumption) | exact wi_next drew_new hb3); have sD3 := hD3.size)
        | (go_at_call_of 17 tq; refine (HQ _ (by first | (with_reducible assumption) | (with_reducible apply wi_new2; with_reducible assumption))).mono ?_; rintro r w4 ⟨rfl, hb4⟩; (try (replace hbx := box_keep hbx hb4)); (try (have hbx : w4.heap[w3.heap.size]? = some (boxC zeroC) := (by with_reducible apply box_new; with_reducible assumption))); (try (obtain ⟨k0, k1, k2, k3, k4, k5⟩ := box_six hbx; have kf := box_froz hbx)); have hE4 : Below w3.heap.size w3 w4 := (by first | (with_reducible assumption) | (with_reducible apply wg_pre; with_reducible assumption)); have hD4 := wi_next hD3 hE4; have sD4 := hD4.size)
        | (go_at_call_of 17 tr; refine (HT _ (by first | (with_reducible assumption) | (with_reducible apply wi_new2; with_reducible assumption))).mono ?_; rintro r w5 ⟨rfl, hb5⟩; (try (replace hbx := box_keep hbx hb5)); (try (have hbx : w5.heap[w4.heap.size]? = some (boxC zeroC) := (by with_reducible apply box_new; with_reducible assumption))); (try (obtain ⟨k0, k1, k2, k3, k4, k5⟩ := box_six hbx; have kf := box_froz hbx)); have hE5 : Below w4.heap.size w4 w5 := (by first | (with_reducible assumption) | (with_reducible apply wg_pre; with_reducible assumption)); have hD5 := wi_next hD4 hE5; have sD5 := hD5.size))
    all_goals
      go_wp2_with fail
      go_meet
      case rel =>
        first
          | (with_reducible apply made_last; with_reducible assumption)
          | (with_reducible apply made_set hD5 <;> first | with_reducible assumption | omega)
  case rest =>
    obtain ⟨g, rfl, hg, hbox, hbc⟩ := hcut
    have hBc : Below w.heap.size w wc := wi_next hB2 hbc
    have hx0 : wc.heap[w.heap.size]? = some (boxC zeroC) := box_keep bx0 hbc
    have hgw : w.heap.size < w2.heap.size := by omega
    obtain ⟨c0, c1, c2, c3, c4, c5⟩ := box_six hbox
    have hF := fun w' => wi_isFun ⟨k, 0, a, b⟩ w'
    have HB : ∀ w', Below wc.heap.size wc w' → (w'.heap[g]? = some (boxC ⟨k, 0, a, b⟩) ∧ w'.heap[w.heap.size]? = some (boxC zeroC)) ∧ Below w.heap.size w w' := fun w' h => ⟨⟨box_keep hbox h, box_keep hx0 h⟩, wi_next hBc h⟩
    clear hbc HS HK HQ HT hD0 bx0 hB2
    by_cases hk : k = 4 ∨ k = 5
    · have hRR : Hid (R = ⟨k, a.num, ⟨0, 0⟩, b⟩) := by rw [← HRR.out, if_pos hk]; rfl
      rw [decide_eq_true hk] at hF
      clear hk HRR
      go_upto_region 6 with (go_at_call 47; refine (hF _).mono ?_; rintro r w6 ⟨rfl, hb6⟩)
      obtain ⟨⟨hb1, hb2'⟩, hB6⟩ := HB _ hb6
      clear HB c0 c1 c2 c3 c4 c5
      obtain ⟨c0, c1, c2, c3, c4, c5⟩ := box_six hb1
      obtain ⟨x0, x1, x2, x3, x4, x5⟩ := box_six hb2'
      have f0 := box_froz hb1
      have f1 := box_froz hb2'
      go_wp2_with fail
      refine bodyPost_ret (v := R.val) (by rw [hRR.out]; simp [results, Tryz.results19, go_sem, x0, x1, x2, x3, x4, x5]) rfl ⟨rfl, ?_⟩
      repeat (refine Below.setCell ?_ (by dsimp only; omega) _)
      exact hB6
    · have hRR : Hid (R = ⟨k, 0, a, b⟩) := by rw [← HRR.out, if_neg hk]; rfl
      rw [decide_eq_false hk] at hF
      clear hk HRR
      go_upto_region 7 with (go_at_call 47; refine (hF _).mono ?_; rintro r w6 ⟨rfl, hb6⟩)
      obtain ⟨⟨hb1, hb2'⟩, hB6⟩ := HB _ hb6
      clear HB c0 c1 c2 c3 c4 c5
      obtain ⟨c0, c1, c2, c3, c4, c5⟩ := box_six hb1
      obtain ⟨x0, x1, x2, x3, x4, x5⟩ := box_six hb2'
      have f0 := box_froz hb1
      have f1 := box_froz hb2'
      go_wp2_with fail
      refine bodyPost_ret (v := R.val) (by rw [hRR.out]; simp [results, Tryz.results19, go_sem, x0, x1, x2, x3, x4, x5]) rfl ⟨rfl, ?_⟩
      repeat (refine Below.setCell ?_ (by dsimp only; omega) _)
      exact hB6
end Go.Proofs.YthikfinliiaecaaGreatDoor

