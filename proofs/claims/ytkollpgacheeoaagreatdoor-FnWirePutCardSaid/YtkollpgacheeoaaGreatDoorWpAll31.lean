/-
  The program's truthText, cellText, wordText.
  The program's wordText, HeapText.
-/
import Derived.Test.YtkollpgacheeoaaGreatDoorWpAll22
import Derived.Deep.RegionHeld3
import Derived.Test.YtkollpgacheeoaaGreatDoorHoImplB
namespace Go.Proofs.YtkollpgacheeoaaGreatDoor
open Go.RowKit

set_option maxHeartbeats 400000 in
theorem impl_truthText (b : Bool) (w : World) : Calls Tryz.prog 36 #[.bool b] w fun r w' => r = .returned (.string (if b = true then trueS else falseS)) ∧ w' = w := by
  cases b
  all_goals
    go_enter Tryz.func36, Tryz.ntmps36
    go_wp2_with fail
    go_ret
    exact ⟨rfl, rfl⟩

/-- What wordText does, d deep. -/
def TextOf (cs : List Ce) (d : Nat) : Prop := ∀ (w : World) (v : Value) (t u r : Int), Cells w (· < w.heap.size) cs v → PowTab w → wordP cs.length t u → r = 14 - d →
  Calls Tryz.prog 32 #[v, .agg #[.int .i64 t, .int .i64 u], .int .i64 r] w fun e w' => e = .returned (.string (textM cs d t u)) ∧ Below w.heap.size w w'

theorem BoxC.tab {w w' : World} {T : TypeId} {k n at' an bt bn : Int} (h : BoxC w w' T k n at' an bt bn) (hT : PowTab w) : PowTab w' := hT.keep h.below
theorem ret_str {s s' : ByteArray} (h : s = s') : Ending.returned (.string s) = Ending.returned (.string s') := by rw [h]

set_option maxHeartbeats 2000000 in
theorem impl_cellText (cs : List Ce) (ho : AllOk cs) (d : Nat) (hd : d ≤ 13) (ih : TextOf cs d) (v : Value) (k n at' an bt bn r : Int) (hr : r = 13 - d) (w : World) (hv : Cells w (· < w.heap.size) cs v) (hT : PowTab w) (ha : wordP cs.length at' an) (hb : wordP cs.length bt bn) :
    Calls Tryz.prog 57 #[v, .agg #[.int .i64 k, .int .i64 n, .int .i64 at', .int .i64 an, .int .i64 bt, .int .i64 bn], .int .i64 r] w fun e w' => e = .returned (.string (cellT (textM cs d) cs k at' an bt bn)) ∧ Below w.heap.size w w' := by
  obtain ⟨a, cap, rfl⟩ := hv.slice
  have hs1 := text_small ho d (by omega) at' an ha
  have hs2 := text_small ho d (by omega) bt bn hb
  have hA : ∀ {w' : World} (r' : Int), BoxC w w' 48 k n at' an bt bn → r' = 14 - d → Calls Tryz.prog 32 #[.slice a cs.length cap, .agg #[.int .i64 at', .int .i64 an], .int .i64 r'] w' fun e w2 => e = .returned (.string (textM cs d at' an)) ∧ Below w'.heap.size w' w2 :=
    fun r' hB hr' => ih _ _ at' an r' (hB.row hv) (hB.tab hT) ha hr'
  have hBb : ∀ {w' : World} (r' : Int), BoxC w w' 48 k n at' an bt bn → r' = 14 - d → Calls Tryz.prog 32 #[.slice a cs.length cap, .agg #[.int .i64 bt, .int .i64 bn], .int .i64 r'] w' fun e w2 => e = .returned (.string (textM cs d bt bn)) ∧ Below w'.heap.size w' w2 :=
    fun r' hB hr' => ih _ _ bt bn r' (hB.row hv) (hB.tab hT) hb hr'
  have hC : cellT (textM cs d) cs k at' an bt bn = cellT (textM cs d) cs k at' an bt bn := rfl
  obtain ⟨t1, ht1⟩ : ∃ s, s = textM cs d at' an := ⟨_, rfl⟩
  obtain ⟨t2, ht2⟩ : ∃ s, s = textM cs d bt bn := ⟨_, rfl⟩
  have HM : cellT (textM cs d) cs k at' an bt bn = if k = 1 then openS ++ t1 ++ commaS ++ t2 ++ closeS else if k = 2 then headM cs at' an t1 ++ colonS ++ t2 else if k = 3 then envS else funS := by rw [ht1, ht2]; rfl
  rw [HM]
  rw [← ht1] at hs1
  rw [← ht2] at hs2
  simp only [← ht1] at hA
  simp only [← ht2] at hBb
  have hwr : Hid (IntKind.i64.wrap (r + 1) = 14 - (d : Int)) := by show _ = _; rw [IntKind.wrap_i64]; omega
  have hrr : Hid (r + 1 = 14 - (d : Int)) := by show _ = _; omega
  have hr0 : 0 ≤ r := by omega
  have hr1 : r ≤ 13 := by omega
  clear HM hC ht1 ht2 ih hr
  rcases (by omega : k = 1 ∨ k = 2 ∨ k = 3 ∨ k < 1 ∨ 3 < k) with rfl | rfl | rfl | h | h
  · rw [if_pos rfl]
    have hd1 : BoxC w (w.alloc (.cells #[.int .i64 1, .int .i64 n, .int .i64 at', .int .i64 an, .int .i64 bt, .int .i64 bn] 48)).drew 48 1 n at' an bt bn := BoxC.start ((Below.refl _ _).drew)
    have HS : ∀ w', BoxC w w' 48 1 n at' an bt bn → w'.cell? ⟨w.heap.size, 2, none⟩ = some (.int .i64 at') ∧ w'.cell? ⟨w.heap.size, 3, none⟩ = some (.int .i64 an) ∧ w'.cell? ⟨w.heap.size, 4, none⟩ = some (.int .i64 bt) ∧ w'.cell? ⟨w.heap.size, 5, none⟩ = some (.int .i64 bn) := fun w' h => h.six.2.2
    go_enter Tryz.func57, Tryz.ntmps57
    go_wp2_with fail
    have q1 : ¬ 9223372036854775807 < 1 + t1.size := by omega
    have q2 : ¬ 9223372036854775807 < 1 + t1.size + 2 := by omega
    have q3 : ¬ 9223372036854775807 < 1 + t1.size + 2 + t2.size := by omega
    have q4 : ¬ 9223372036854775807 < 1 + t1.size + 2 + t2.size + 1 := by omega
    go_region_held3 (fun w' => w'.cell? ⟨w.heap.size, 2, none⟩ = some (.int .i64 at') ∧ w'.cell? ⟨w.heap.size, 3, none⟩ = some (.int .i64 an) ∧ w'.cell? ⟨w.heap.size, 4, none⟩ = some (.int .i64 bt) ∧ w'.cell? ⟨w.heap.size, 5, none⟩ = some (.int .i64 bn))
      (first | exact HS _ hc2 | exact HS _ hc1 | exact HS _ hd1)
      (first
        | (go_at_call_of 32 at'; refine (hA _ hd1 (by first | exact hwr.out | exact hrr.out)).mono ?_; rintro e1 w2 ⟨rfl, hb1⟩; have hc1 := hd1.next hb1)
        | (go_at_call_of 32 bt; refine (hBb _ hc1 (by first | exact hwr.out | exact hrr.out)).mono ?_; rintro e2 w3 ⟨rfl, hb2⟩; have hc2 := hc1.next hb2))
    go_wp2_with fail
    go_ret
    exact ⟨rfl, hc2.below⟩
  · rw [if_neg (by decide), if_pos rfl]
    have hL : ∀ {w' : World} (b : Bool), decide (at' = 4 ∧ kindAt cs an = some 2) = b → BoxC w w' 48 2 n at' an bt bn → Calls Tryz.prog 73 #[.slice a cs.length cap, .agg #[.int .i64 at', .int .i64 an], .int .i64 2] w' fun e w2 => e = .returned (.bool b) ∧ Below w'.heap.size w' w2 :=
      fun b h hB => by rw [← h]; exact impl_leadsTo cs (by have := ho.1; omega) _ at' an 2 _ (hB.row hv) ha
    by_cases hl : at' = 4 ∧ kindAt cs an = some 2
    · replace hL := fun {w'} => hL (w' := w') true (decide_eq_true hl)
      rw [headM, if_pos hl]
      clear hl
      go_enter Tryz.func57, Tryz.ntmps57
      go_wp2_with (first
        | (go_at_call_of 32 at'; refine (hA _ (BoxC.start (Below.refl _ _)) hrr.out).mono ?_; rintro e1 w2 ⟨rfl, hb1⟩; have hc1 := BoxC.start hb1; clear hb1; obtain ⟨p0, p1, p2, p3, p4, p5⟩ := hc1.six)
        | (go_at_call 73; refine (hL hc1).mono ?_; rintro e1 w3 ⟨rfl, hb2⟩; have hc2 := hc1.next hb2; clear hb2 p0 p1 p2 p3 p4 p5; obtain ⟨p0, p1, p2, p3, p4, p5⟩ := hc2.six)
        | (go_at_call_of 32 bt; refine (hBb _ hc2 hrr.out).mono ?_; rintro e1 w4 ⟨rfl, hb3⟩; have hc3 := hc2.next hb3))
      go_ret
      exact ⟨rfl, hc3.below⟩
    · replace hL := fun {w'} => hL (w' := w') false (decide_eq_false hl)
      rw [headM, if_neg hl]
      clear hl
      go_enter Tryz.func57, Tryz.ntmps57
      go_wp2_with (first
        | (go_at_call_of 32 at'; refine (hA _ (BoxC.start (Below.refl _ _)) hrr.out).mono ?_; rintro e1 w2 ⟨rfl, hb1⟩; have hc1 := BoxC.start hb1; clear hb1; obtain ⟨p0, p1, p2, p3, p4, p5⟩ := hc1.six)
        | (go_at_call 73; refine (hL hc1).mono ?_; rintro e1 w3 ⟨rfl, hb2⟩; have hc2 := hc1.next hb2; clear hb2 p0 p1 p2 p3 p4 p5; obtain ⟨p0, p1, p2, p3, p4, p5⟩ := hc2.six)
        | (go_at_call_of 32 bt; refine (hBb _ hc2 hrr.out).mono ?_; rintro e1 w4 ⟨rfl, hb3⟩; have hc3 := hc2.next hb3))
      go_ret
      exact ⟨rfl, hc3.below⟩
  · rw [if_neg (by decide), if_neg (by decide), if_pos rfl]
    go_enter Tryz.func57, Tryz.ntmps57
    go_wp2_with fail
    go_ret
    exact ⟨rfl, (Below.refl _ _).alloc (Nat.le_refl _) _⟩
  · rw [if_neg (by omega), if_neg (by omega), if_neg (by omega)]
    go_enter Tryz.func57, Tryz.ntmps57
    go_wp2_with fail
    go_ret
    exact ⟨rfl, (Below.refl _ _).alloc (Nat.le_refl _) _⟩
  · rw [if_neg (by omega), if_neg (by omega), if_neg (by omega)]
    go_enter Tryz.func57, Tryz.ntmps57
    go_wp2_with fail
    go_ret
    exact ⟨rfl, (Below.refl _ _).alloc (Nat.le_refl _) _⟩
end Go.Proofs.YtkollpgacheeoaaGreatDoor

namespace Go.Proofs.YtkollpgacheeoaaGreatDoor
open Go.RowKit

set_option maxHeartbeats 400000 in
theorem text_zero (cs : List Ce) : TextOf cs 0 := by
  intro w v t u r hv hT hw hr
  obtain ⟨a, cap, rfl⟩ := hv.slice
  have hr14 : r = 14 := by omega
  subst hr14
  clear hr
  go_enter Tryz.func32, Tryz.ntmps32
  go_wp2_with fail
  go_ret
  exact ⟨rfl, (Below.refl _ _).alloc (Nat.le_refl _) _⟩

set_option maxHeartbeats 1000000 in
theorem text_next (cs : List Ce) (ho : AllOk cs) (d : Nat) (hd : d ≤ 13) (ih : TextOf cs d) : TextOf cs (d + 1) := by
  intro w v t u r hv hT hw hr
  obtain ⟨a, cap, rfl⟩ := hv.slice
  have hrr : Hid (r = 13 - (d : Int)) := by show _ = _; omega
  have hr0 : 0 ≤ r := by omega
  have hr1 : r ≤ 13 := by omega
  clear hr
  have hlen := ho.1
  have hB1 : ∀ o, Below w.heap.size w (w.alloc o) := fun o => (Below.refl _ _).alloc (Nat.le_refl _) o
  have hI : ∀ o, -9223372036854775808 ≤ u → u ≤ 9223372036854775807 → Calls Tryz.prog 35 #[.int .i64 u] (w.alloc o) fun e w' => e = .returned (.string (decZ u)) ∧ Below (w.alloc o).heap.size (w.alloc o) w' :=
    fun o h0 h1 => impl_Itoa u h0 h1 _ (hT.keep (hB1 o))
  rcases tag_ways t with rfl | rfl | rfl | rfl | rfl | h | h
  · go_enter Tryz.func32, Tryz.ntmps32
    go_wp2_with fail
    go_ret
    exact ⟨rfl, hB1 _⟩
  · go_enter Tryz.func32, Tryz.ntmps32
    go_wp2_with (go_at_call 35; refine (hI _ (by unfold wordP at hw; omega) (by unfold wordP at hw; omega)).mono ?_; rintro e w2 ⟨rfl, hb2⟩)
    go_ret
    exact ⟨rfl, (hB1 _).trans (hb2.mono (by simp))⟩
  · by_cases h1 : u = 1
    · subst h1
      have hX : textM cs (d + 1) 2 1 = trueS := by rw [textM, if_neg (by decide), if_pos rfl, if_pos rfl]
      have hTr : ∀ (b : Bool) (w' : World), b = true → Calls Tryz.prog 36 #[.bool b] w' fun e w2 => e = .returned (.string trueS) ∧ w2 = w' := fun b w' hb => by subst hb; exact impl_truthText true w'
      rw [hX]
      go_enter Tryz.func32, Tryz.ntmps32
      go_wp2_with (go_at_call 36; refine (hTr _ _ (by rfl)).mono ?_; rintro e w2 ⟨rfl, rfl⟩)
      go_ret
      exact ⟨rfl, hB1 _⟩
    · have hX : textM cs (d + 1) 2 u = falseS := by rw [textM, if_neg (by decide), if_pos rfl, if_neg h1]
      have hbu : (u == 1) = false := by simpa using h1
      have hTr : ∀ (b : Bool) (w' : World), b = false → Calls Tryz.prog 36 #[.bool b] w' fun e w2 => e = .returned (.string falseS) ∧ w2 = w' := fun b w' hb => by subst hb; exact impl_truthText false w'
      rw [hX]
      go_enter Tryz.func32, Tryz.ntmps32
      go_wp2_with (go_at_call 36; refine (hTr _ _ (by first | rfl | exact hbu)).mono ?_; rintro e w2 ⟨rfl, rfl⟩)
      go_ret
      exact ⟨rfl, hB1 _⟩
  · have hs := decZ_size u (by unfold wordP at hw; omega) (by unfold wordP at hw; omega)
    go_enter Tryz.func32, Tryz.ntmps32
    go_wp2_with (go_at_call 35; refine (hI _ (by unfold wordP at hw; omega) (by unfold wordP at hw; omega)).mono ?_; rintro e w2 ⟨rfl, hb2⟩)
    go_ret
    exact ⟨rfl, (hB1 _).trans (hb2.mono (by simp))⟩
  · obtain ⟨i, rfl⟩ := Int.eq_ofNat_of_zero_le (a := u) (by unfold wordP at hw; omega)
    have hi : i < cs.length := by unfold wordP at hw; omega
    obtain ⟨b, off, hS, rfl, hr'⟩ := hv.at i hi
    obtain ⟨c0, c1, c2, c3, c4, c5⟩ := Ce.six hr'
    have hneb : b ≠ w.heap.size := by omega
    have hc := ho.2 i hi
    have hX : textM cs (d + 1) 4 i = cellT (textM cs d) cs cs[i].kind cs[i].a.tag cs[i].a.num cs[i].b.tag cs[i].b.num := by
      rw [textM, if_neg (by decide), if_neg (by decide), if_neg (by decide), if_pos rfl]
      simp [hi]
    rw [hX]
    have hii : (i : Int) < (cs.length : Int) := by omega
    have hO : ∀ o, Calls Tryz.prog 57 #[.slice (some ⟨b, off, none⟩) cs.length cap, .agg #[.int .i64 cs[i].kind, .int .i64 cs[i].num, .int .i64 cs[i].a.tag, .int .i64 cs[i].a.num, .int .i64 cs[i].b.tag, .int .i64 cs[i].b.num], .int .i64 r] (w.alloc o) fun e w' => e = .returned (.string (cellT (textM cs d) cs cs[i].kind cs[i].a.tag cs[i].a.num cs[i].b.tag cs[i].b.num)) ∧ Below (w.alloc o).heap.size (w.alloc o) w' :=
      fun o => impl_cellText cs ho d hd ih _ _ _ _ _ _ _ r hrr.out _ (hv.keep (hB1 o) (by simp)) (hT.keep (hB1 o)) hc.1 hc.2.1
    clear hr' hw hX hc ih
    go_enter Tryz.func32, Tryz.ntmps32
    go_wp2_with (go_at_call 57; refine (hO _).mono ?_; rintro e w2 ⟨rfl, hb2⟩)
    go_ret
    exact ⟨rfl, (hB1 _).trans (hb2.mono (by simp))⟩
  · exact absurd hw (by unfold wordP; omega)
  · exact absurd hw (by unfold wordP; omega)

theorem text_all (cs : List Ce) (ho : AllOk cs) : ∀ d : Nat, d ≤ 14 → TextOf cs d
  | 0, _ => text_zero cs
  | d + 1, h => text_next cs ho d (by omega) (text_all cs ho d (by omega))

/-- What is written of cells and a word. -/
def writeM (cs : List Ce) (t u : Int) : ByteArray := if heapM cs = true ∧ wordP cs.length t u then textM cs 14 t u else ⟨#[]⟩
theorem heap_all {cs : List Ce} (h : heapM cs = true) : AllOk cs := by
  unfold heapM at h
  rw [Bool.and_eq_true, List.all_eq_true] at h
  exact ⟨of_decide_eq_true h.1, fun k hk => of_decide_eq_true (h.2 _ (List.getElem_mem hk))⟩

theorem two_keep {w w' : World} {b : Nat} {x y : Value} (h0 : w.cell? ⟨b, 0, none⟩ = some x) (h1 : w.cell? ⟨b, 1, none⟩ = some y) (hb : Below w.heap.size w w') : w'.cell? ⟨b, 0, none⟩ = some x ∧ w'.cell? ⟨b, 1, none⟩ = some y := by
  have hlt : b < w.heap.size := by
    apply Decidable.byContradiction
    intro hge
    have hn : w.heap[b]? = none := Array.getElem?_eq_none (by omega)
    unfold World.cell? at h0
    simp [hn] at h0
  rw [hb.cell (p := ⟨b, 0, none⟩) hlt, hb.cell (p := ⟨b, 1, none⟩) hlt]
  exact ⟨h0, h1⟩
set_option maxHeartbeats 1000000 in
theorem impl_HeapText (cs : List Ce) (hn : cs.length ≤ 1048576) (v : Value) (t u : Int) (w : World) (hv : Cells w (· < w.heap.size) cs v) (hT : PowTab w) :
    Calls Tryz.prog 10 #[v, .agg #[.int .i64 t, .int .i64 u]] w fun e w' => e = .returned (.string (writeM cs t u)) ∧ Below w.heap.size w w' := by
  obtain ⟨a, cap, rfl⟩ := hv.slice
  have hB1 : ∀ o, Below w.heap.size w (w.alloc o) := fun o => (Below.refl _ _).alloc (Nat.le_refl _) o
  have hO := fun o => impl_HeapOk cs hn _ (w.alloc o) (hv.keep (hB1 o) (by simp))
  have hcell : ∀ {w2 : World} {o : Obj}, o = .cells #[.int .i64 t, .int .i64 u] 25 → Below (w.alloc o).heap.size (w.alloc o) w2 → w2.cell? ⟨w.heap.size, 0, none⟩ = some (.int .i64 t) ∧ w2.cell? ⟨w.heap.size, 1, none⟩ = some (.int .i64 u) := fun ho hb => by
    subst ho
    rw [hb.cell (by simp), hb.cell (by simp)]
    simp [go_sem]
  by_cases hh : heapM cs = true
  · have hok := heap_all hh
    rw [hh] at hO
    by_cases hw : wordP cs.length t u
    · rw [writeM, if_pos ⟨hh, hw⟩]
      clear hh
      go_enter Tryz.func10, Tryz.ntmps10
      go_wp2_with (first
        | (go_at_call 28; refine (hO _).mono ?_; rintro e w2 ⟨rfl, hb2⟩; obtain ⟨p0, p1⟩ := hcell rfl hb2; have hB2 := (hB1 _).trans (hb2.mono (by simp)); clear hb2)
        | (go_at_call 31; refine (impl_wordOk_yes a cs.length cap (by omega) t u _ hw).mono ?_; rintro e w3 ⟨rfl, hb3⟩; obtain ⟨q0, q1⟩ := two_keep p0 p1 hb3; have hB3 := hB2.trans (hb3.mono hB2.size))
        | (go_at_call 32; refine (text_all cs hok 14 (Nat.le_refl _) _ _ t u 0 (hv.keep hB3 hB3.size) (hT.keep hB3) hw (by omega)).mono ?_; rintro e w4 ⟨rfl, hb4⟩))
      go_ret
      exact ⟨rfl, hB3.trans (hb4.mono hB3.size)⟩
    · rw [writeM, if_neg (fun h => hw h.2)]
      go_enter Tryz.func10, Tryz.ntmps10
      go_wp2_with (first
        | (go_at_call 28; refine (hO _).mono ?_; rintro e w2 ⟨rfl, hb2⟩; obtain ⟨p0, p1⟩ := hcell rfl hb2; have hB2 := (hB1 _).trans (hb2.mono (by simp)); clear hb2)
        | (go_at_call 31; refine (impl_wordOk_no a cs.length cap (by omega) t u _ hw).mono ?_; rintro e w3 ⟨rfl, hb3⟩))
      go_ret
      exact ⟨rfl, hB2.trans (hb3.mono hB2.size)⟩
  · rw [writeM, if_neg (fun h => hh h.1)]
    rw [Bool.eq_false_iff.2 hh] at hO
    go_enter Tryz.func10, Tryz.ntmps10
    go_wp2_with (go_at_call 28; refine (hO _).mono ?_; rintro e w2 ⟨rfl, hb2⟩)
    go_ret
    exact ⟨rfl, (hB1 _).trans (hb2.mono (by simp))⟩
end Go.Proofs.YtkollpgacheeoaaGreatDoor

