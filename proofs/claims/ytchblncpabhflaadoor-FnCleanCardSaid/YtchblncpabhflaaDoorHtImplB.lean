/-
  The program's wordText, HeapText.
-/
import Derived.Test.YtchblncpabhflaaDoorHtImpl
import Derived.Test.YtchblncpabhflaaDoorHoImplB
namespace Go.Proofs.YtchblncpabhflaaDoor
open Go.RowKit

set_option maxHeartbeats 400000 in
theorem text_zero (cs : List Ce) : TextOf cs 0 := by
  intro w v t u r hv hT hw hr
  obtain ⟨a, cap, rfl⟩ := hv.slice
  have hr14 : r = 14 := by omega
  subst hr14
  clear hr
  go_enter Tryd.func22, Tryd.ntmps22
  go_wp2_with fail
  go_ret
  exact ⟨rfl, (Below.refl _ _).alloc (Nat.le_refl _) _⟩

set_option maxHeartbeats 1000000 in
theorem text_next (cs : List Ce) (ho : AllOk cs) (d : Nat) (hd : d ≤ 13) (ih : TextOf cs d) : TextOf cs (d + 1) := by
  intro w v t u r hv hT hw hr
  obtain ⟨a, cap, rfl⟩ := hv.slice
  have hrr : Hid (r = 13 - (d : Int)) := by show _ = _; omega
  have hr0 : 0 ≤ r := by omega
  have hr1 : r ≤ 13 := by omega
  clear hr
  have hlen := ho.1
  have hB1 : ∀ o, Below w.heap.size w (w.alloc o) := fun o => (Below.refl _ _).alloc (Nat.le_refl _) o
  have hI : ∀ o, -9223372036854775808 ≤ u → u ≤ 9223372036854775807 → Calls Tryd.prog 34 #[.int .i64 u] (w.alloc o) fun e w' => e = .returned (.string (decZ u)) ∧ Below (w.alloc o).heap.size (w.alloc o) w' :=
    fun o h0 h1 => impl_Itoa u h0 h1 _ (hT.keep (hB1 o))
  rcases tag_ways t with rfl | rfl | rfl | rfl | rfl | h | h
  · go_enter Tryd.func22, Tryd.ntmps22
    go_wp2_with fail
    go_ret
    exact ⟨rfl, hB1 _⟩
  · go_enter Tryd.func22, Tryd.ntmps22
    go_wp2_with (go_at_call 34; refine (hI _ (by unfold wordP at hw; omega) (by unfold wordP at hw; omega)).mono ?_; rintro e w2 ⟨rfl, hb2⟩)
    go_ret
    exact ⟨rfl, (hB1 _).trans (hb2.mono (by simp))⟩
  · by_cases h1 : u = 1
    · subst h1
      have hX : textM cs (d + 1) 2 1 = trueS := by rw [textM, if_neg (by decide), if_pos rfl, if_pos rfl]
      have hTr : ∀ (b : Bool) (w' : World), b = true → Calls Tryd.prog 35 #[.bool b] w' fun e w2 => e = .returned (.string trueS) ∧ w2 = w' := fun b w' hb => by subst hb; exact impl_truthText true w'
      rw [hX]
      go_enter Tryd.func22, Tryd.ntmps22
      go_wp2_with (go_at_call 35; refine (hTr _ _ (by rfl)).mono ?_; rintro e w2 ⟨rfl, rfl⟩)
      go_ret
      exact ⟨rfl, hB1 _⟩
    · have hX : textM cs (d + 1) 2 u = falseS := by rw [textM, if_neg (by decide), if_pos rfl, if_neg h1]
      have hbu : (u == 1) = false := by simpa using h1
      have hTr : ∀ (b : Bool) (w' : World), b = false → Calls Tryd.prog 35 #[.bool b] w' fun e w2 => e = .returned (.string falseS) ∧ w2 = w' := fun b w' hb => by subst hb; exact impl_truthText false w'
      rw [hX]
      go_enter Tryd.func22, Tryd.ntmps22
      go_wp2_with (go_at_call 35; refine (hTr _ _ (by first | rfl | exact hbu)).mono ?_; rintro e w2 ⟨rfl, rfl⟩)
      go_ret
      exact ⟨rfl, hB1 _⟩
  · have hs := decZ_size u (by unfold wordP at hw; omega) (by unfold wordP at hw; omega)
    go_enter Tryd.func22, Tryd.ntmps22
    go_wp2_with (go_at_call 34; refine (hI _ (by unfold wordP at hw; omega) (by unfold wordP at hw; omega)).mono ?_; rintro e w2 ⟨rfl, hb2⟩)
    go_ret
    exact ⟨rfl, (hB1 _).trans (hb2.mono (by simp))⟩
  · obtain ⟨i, rfl⟩ := Int.eq_ofNat_of_zero_le (a := u) (by unfold wordP at hw; omega)
    have hi : i < cs.length := by unfold wordP at hw; omega
    obtain ⟨b, off, hS, rfl, hr'⟩ := hv.at i hi
    obtain ⟨c0, c1, c2, c3, c4, c5⟩ := Ce.six hr'
    have hneb : b ≠ w.heap.size := by omega
    have hc := ho.2 i hi
    have hX : textM cs (d + 1) 4 i = cellT (textM cs d) cs cs[i].kind cs[i].a.tag cs[i].a.num cs[i].b.tag cs[i].b.num := by
      rw [textM, if_neg (by decide), if_neg (by decide), if_neg (by decide), if_pos rfl]
      simp [hi]
    rw [hX]
    have hii : (i : Int) < (cs.length : Int) := by omega
    have hO : ∀ o, Calls Tryd.prog 36 #[.slice (some ⟨b, off, none⟩) cs.length cap, .agg #[.int .i64 cs[i].kind, .int .i64 cs[i].num, .int .i64 cs[i].a.tag, .int .i64 cs[i].a.num, .int .i64 cs[i].b.tag, .int .i64 cs[i].b.num], .int .i64 r] (w.alloc o) fun e w' => e = .returned (.string (cellT (textM cs d) cs cs[i].kind cs[i].a.tag cs[i].a.num cs[i].b.tag cs[i].b.num)) ∧ Below (w.alloc o).heap.size (w.alloc o) w' :=
      fun o => impl_cellText cs ho d hd ih _ _ _ _ _ _ _ r hrr.out _ (hv.keep (hB1 o) (by simp)) (hT.keep (hB1 o)) hc.1 hc.2.1
    clear hr' hw hX hc ih
    go_enter Tryd.func22, Tryd.ntmps22
    go_wp2_with (go_at_call 36; refine (hO _).mono ?_; rintro e w2 ⟨rfl, hb2⟩)
    go_ret
    exact ⟨rfl, (hB1 _).trans (hb2.mono (by simp))⟩
  · exact absurd hw (by unfold wordP; omega)
  · exact absurd hw (by unfold wordP; omega)

theorem text_all (cs : List Ce) (ho : AllOk cs) : ∀ d : Nat, d ≤ 14 → TextOf cs d
  | 0, _ => text_zero cs
  | d + 1, h => text_next cs ho d (by omega) (text_all cs ho d (by omega))

/-- What is written of cells and a word. -/
def writeM (cs : List Ce) (t u : Int) : ByteArray := if heapM cs = true ∧ wordP cs.length t u then textM cs 14 t u else ⟨#[]⟩
theorem heap_all {cs : List Ce} (h : heapM cs = true) : AllOk cs := by
  unfold heapM at h
  rw [Bool.and_eq_true, List.all_eq_true] at h
  exact ⟨of_decide_eq_true h.1, fun k hk => of_decide_eq_true (h.2 _ (List.getElem_mem hk))⟩

theorem two_keep {w w' : World} {b : Nat} {x y : Value} (h0 : w.cell? ⟨b, 0, none⟩ = some x) (h1 : w.cell? ⟨b, 1, none⟩ = some y) (hb : Below w.heap.size w w') : w'.cell? ⟨b, 0, none⟩ = some x ∧ w'.cell? ⟨b, 1, none⟩ = some y := by
  have hlt : b < w.heap.size := by
    apply Decidable.byContradiction
    intro hge
    have hn : w.heap[b]? = none := Array.getElem?_eq_none (by omega)
    unfold World.cell? at h0
    simp [hn] at h0
  rw [hb.cell (p := ⟨b, 0, none⟩) hlt, hb.cell (p := ⟨b, 1, none⟩) hlt]
  exact ⟨h0, h1⟩
set_option maxHeartbeats 1000000 in
theorem impl_HeapText (cs : List Ce) (hn : cs.length ≤ 1048576) (v : Value) (t u : Int) (w : World) (hv : Cells w (· < w.heap.size) cs v) (hT : PowTab w) :
    Calls Tryd.prog 10 #[v, .agg #[.int .i64 t, .int .i64 u]] w fun e w' => e = .returned (.string (writeM cs t u)) ∧ Below w.heap.size w w' := by
  obtain ⟨a, cap, rfl⟩ := hv.slice
  have hB1 : ∀ o, Below w.heap.size w (w.alloc o) := fun o => (Below.refl _ _).alloc (Nat.le_refl _) o
  have hO := fun o => impl_HeapOk cs hn _ (w.alloc o) (hv.keep (hB1 o) (by simp))
  have hcell : ∀ {w2 : World} {o : Obj}, o = .cells #[.int .i64 t, .int .i64 u] 32 → Below (w.alloc o).heap.size (w.alloc o) w2 → w2.cell? ⟨w.heap.size, 0, none⟩ = some (.int .i64 t) ∧ w2.cell? ⟨w.heap.size, 1, none⟩ = some (.int .i64 u) := fun ho hb => by
    subst ho
    rw [hb.cell (by simp), hb.cell (by simp)]
    simp [go_sem]
  by_cases hh : heapM cs = true
  · have hok := heap_all hh
    rw [hh] at hO
    by_cases hw : wordP cs.length t u
    · rw [writeM, if_pos ⟨hh, hw⟩]
      clear hh
      go_enter Tryd.func10, Tryd.ntmps10
      go_wp2_with (first
        | (go_at_call 9; refine (hO _).mono ?_; rintro e w2 ⟨rfl, hb2⟩; obtain ⟨p0, p1⟩ := hcell rfl hb2; have hB2 := (hB1 _).trans (hb2.mono (by simp)); clear hb2)
        | (go_at_call 21; refine (impl_wordOk_yes a cs.length cap (by omega) t u _ hw).mono ?_; rintro e w3 ⟨rfl, hb3⟩; obtain ⟨q0, q1⟩ := two_keep p0 p1 hb3; have hB3 := hB2.trans (hb3.mono hB2.size))
        | (go_at_call 22; refine (text_all cs hok 14 (Nat.le_refl _) _ _ t u 0 (hv.keep hB3 hB3.size) (hT.keep hB3) hw (by omega)).mono ?_; rintro e w4 ⟨rfl, hb4⟩))
      go_ret
      exact ⟨rfl, hB3.trans (hb4.mono hB3.size)⟩
    · rw [writeM, if_neg (fun h => hw h.2)]
      go_enter Tryd.func10, Tryd.ntmps10
      go_wp2_with (first
        | (go_at_call 9; refine (hO _).mono ?_; rintro e w2 ⟨rfl, hb2⟩; obtain ⟨p0, p1⟩ := hcell rfl hb2; have hB2 := (hB1 _).trans (hb2.mono (by simp)); clear hb2)
        | (go_at_call 21; refine (impl_wordOk_no a cs.length cap (by omega) t u _ hw).mono ?_; rintro e w3 ⟨rfl, hb3⟩))
      go_ret
      exact ⟨rfl, hB2.trans (hb3.mono hB2.size)⟩
  · rw [writeM, if_neg (fun h => hh h.1)]
    rw [Bool.eq_false_iff.2 hh] at hO
    go_enter Tryd.func10, Tryd.ntmps10
    go_wp2_with (go_at_call 9; refine (hO _).mono ?_; rintro e w2 ⟨rfl, hb2⟩)
    go_ret
    exact ⟨rfl, (hB1 _).trans (hb2.mono (by simp))⟩
end Go.Proofs.YtchblncpabhflaaDoor
