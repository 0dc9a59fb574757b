/-
  The specification's l7Text to its depth, HeapText.
-/
import Derived.Test.YtfdkemcjbmbcbaaDoorHtSpecB
namespace Go.Proofs.YtfdkemcjbmbcbaaDoor
open Go.RowKit

set_option maxHeartbeats 400000 in
theorem spec_zero (cs : List Ce) : TextS cs 0 := by
  intro w v t u r hv hw hr
  obtain ⟨a, cap, rfl⟩ := hv.slice
  have hr14 : r = 15 := by omega
  subst hr14
  clear hr
  go_enter Tryd.func12, Tryd.ntmps12
  go_wp2_with fail
  go_ret
  exact ⟨rfl, (Below.refl _ _).alloc (Nat.le_refl _) _⟩

set_option maxHeartbeats 1000000 in
theorem spec_next (cs : List Ce) (ho : AllOk cs) (d : Nat) (hd : d ≤ 13) (ih : TextS cs d) : TextS cs (d + 1) := by
  intro w v t u r hv hw hr
  obtain ⟨a, cap, rfl⟩ := hv.slice
  have hrr : Hid (r = 14 - (d : Int)) := by show _ = _; omega
  have hr0 : 0 ≤ r := by omega
  have hr1 : r ≤ 14 := by omega
  clear hr
  have hlen := ho.1
  have hB1 : ∀ o, Below w.heap.size w (w.alloc o) := fun o => (Below.refl _ _).alloc (Nat.le_refl _) o
  have hI : ∀ o, -9223372036854775807 ≤ u → u ≤ 9223372036854775807 → Calls Tryd.prog 21 #[.int .i64 u] (w.alloc o) fun e w' => e = .returned (.string (decZ u)) ∧ Below (w.alloc o).heap.size (w.alloc o) w' :=
    fun o h0 h1 => ht_dec u h0 h1 _
  rcases tag_ways t with rfl | rfl | rfl | rfl | rfl | h | h
  · go_enter Tryd.func12, Tryd.ntmps12
    go_wp2_with fail
    go_ret
    exact ⟨rfl, hB1 _⟩
  · go_enter Tryd.func12, Tryd.ntmps12
    go_wp2_with (go_at_call 21; refine (hI _ (by unfold wordP at hw; omega) (by unfold wordP at hw; omega)).mono ?_; rintro e w2 ⟨rfl, hb2⟩)
    go_ret
    exact ⟨rfl, (hB1 _).trans (hb2.mono (by simp))⟩
  · rcases (by unfold wordP at hw; omega : u = 0 ∨ u = 1) with rfl | rfl
    · have hX : textM cs (d + 1) 2 0 = falseS := by rw [textM, if_neg (by decide), if_pos rfl, if_neg (by decide)]
      rw [hX]
      go_enter Tryd.func12, Tryd.ntmps12
      go_wp2_with fail
      go_ret
      exact ⟨rfl, (hB1 _).alloc (hB1 _).size _⟩
    · have hX : textM cs (d + 1) 2 1 = trueS := by rw [textM, if_neg (by decide), if_pos rfl, if_pos rfl]
      rw [hX]
      go_enter Tryd.func12, Tryd.ntmps12
      go_wp2_with fail
      go_ret
      exact ⟨rfl, (hB1 _).alloc (hB1 _).size _⟩
  · have hs := decZ_size u (by unfold wordP at hw; omega) (by unfold wordP at hw; omega)
    go_enter Tryd.func12, Tryd.ntmps12
    go_wp2_with (go_at_call 21; refine (hI _ (by unfold wordP at hw; omega) (by unfold wordP at hw; omega)).mono ?_; rintro e w2 ⟨rfl, hb2⟩)
    go_ret
    exact ⟨rfl, (hB1 _).trans (hb2.mono (by simp))⟩
  · obtain ⟨i, rfl⟩ := Int.eq_ofNat_of_zero_le (a := u) (by unfold wordP at hw; omega)
    have hi : i < cs.length := by unfold wordP at hw; omega
    obtain ⟨b, off, hS, rfl, hr'⟩ := hv.at i hi
    obtain ⟨c0, c1, c2, c3, c4, c5⟩ := Ce.six hr'
    have hc := ho.2 i hi
    have hX : textM cs (d + 1) 4 i = cellM (textM cs d) cs cs[i].kind cs[i].a.tag cs[i].a.num cs[i].b.tag cs[i].b.num := by
      rw [textM, if_neg (by decide), if_neg (by decide), if_neg (by decide), if_pos rfl]
      simp [hi]
    rw [hX]
    exact spec_ref cs ho d hd ih b off cap i hi _ _ _ _ _ _ r hrr.out w hv hS c0 c1 c2 c3 c4 c5 hc.1 hc.2.1
  · exact absurd hw (by unfold wordP; omega)
  · exact absurd hw (by unfold wordP; omega)

theorem spec_all (cs : List Ce) (ho : AllOk cs) : ∀ d : Nat, d ≤ 14 → TextS cs d
  | 0, _ => spec_zero cs
  | d + 1, h => spec_next cs ho d (by omega) (spec_all cs ho d (by omega))

set_option maxHeartbeats 1000000 in
theorem spec_HeapText (cs : List Ce) (hn : cs.length ≤ 1048576) (v : Value) (t u : Int) (w : World) (hv : Cells w (· < w.heap.size) cs v) :
    Calls Tryd.prog 5 #[v, .agg #[.int .i64 t, .int .i64 u]] w fun e w' => e = .returned (.string (writeM cs t u)) ∧ Below w.heap.size w w' := by
  obtain ⟨a, cap, rfl⟩ := hv.slice
  have hB1 : ∀ o, Below w.heap.size w (w.alloc o) := fun o => (Below.refl _ _).alloc (Nat.le_refl _) o
  have hO := fun o => ho_l7Ok cs hn _ (w.alloc o) (hv.keep (hB1 o) (by simp))
  have hcell : ∀ {w2 : World} {o : Obj}, o = .cells #[.int .i64 t, .int .i64 u] 29 → Below (w.alloc o).heap.size (w.alloc o) w2 → w2.cell? ⟨w.heap.size, 0, none⟩ = some (.int .i64 t) ∧ w2.cell? ⟨w.heap.size, 1, none⟩ = some (.int .i64 u) := fun ho hb => by
    subst ho
    rw [hb.cell (by simp), hb.cell (by simp)]
    simp [go_sem]
  by_cases hh : heapM cs = true
  · have hok := heap_all hh
    rw [hh] at hO
    by_cases hw : wordP cs.length t u
    · rw [writeM, if_pos ⟨hh, hw⟩]
      clear hh
      go_enter Tryd.func5, Tryd.ntmps5
      go_wp2_with (first
        | (go_at_call 10; refine (hO _).mono ?_; rintro e w2 ⟨rfl, hb2⟩; obtain ⟨p0, p1⟩ := hcell rfl hb2; have hB2 := (hB1 _).trans (hb2.mono (by simp)); clear hb2)
        | (go_at_call 11; refine (ho_word_yes cs.length (by omega) t u _ hw).mono ?_; rintro e w3 ⟨rfl, hb3⟩; obtain ⟨q0, q1⟩ := two_keep p0 p1 hb3; have hB3 := hB2.trans (hb3.mono hB2.size))
        | (go_at_call 12; refine (spec_all cs hok 14 (Nat.le_refl _) _ _ t u 1 (hv.keep hB3 hB3.size) hw (by omega)).mono ?_; rintro e w4 ⟨rfl, hb4⟩))
      go_ret
      exact ⟨rfl, hB3.trans (hb4.mono hB3.size)⟩
    · rw [writeM, if_neg (fun h => hw h.2)]
      go_enter Tryd.func5, Tryd.ntmps5
      go_wp2_with (first
        | (go_at_call 10; refine (hO _).mono ?_; rintro e w2 ⟨rfl, hb2⟩; obtain ⟨p0, p1⟩ := hcell rfl hb2; have hB2 := (hB1 _).trans (hb2.mono (by simp)); clear hb2)
        | (go_at_call 11; refine (ho_word_no cs.length (by omega) t u _ hw).mono ?_; rintro e w3 ⟨rfl, hb3⟩))
      go_ret
      exact ⟨rfl, hB2.trans (hb3.mono hB2.size)⟩
  · rw [writeM, if_neg (fun h => hh h.1)]
    rw [Bool.eq_false_iff.2 hh] at hO
    go_enter Tryd.func5, Tryd.ntmps5
    go_wp2_with (go_at_call 10; refine (hO _).mono ?_; rintro e w2 ⟨rfl, hb2⟩)
    go_ret
    exact ⟨rfl, (hB1 _).trans (hb2.mono (by simp))⟩
end Go.Proofs.YtfdkemcjbmbcbaaDoor
