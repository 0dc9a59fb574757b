/-
  A map of how often names were found, in a captured variable: freeSet's closure.
-/
import Derived.Test.YtkkjpiikilhobaaGreatDoorNkClone
import Derived.Maps.Own
import Derived.Maps.OwnOps
import Derived.Maps.Views
namespace Go.Proofs.YtkkjpiikilhobaaGreatDoor
open Go.RowKit Go.Maps Go.WideMaps

/-- How often a text stands in a list. -/
def oft (os : List ByteArray) (s : ByteArray) : Nat := os.countP fun x => x.data.toList == s.data.toList
/-- Block Bm is a map of how often each name was found, the block behind it the variable that holds it. -/
def Holds (w : World) (Bm : Nat) (os : List ByteArray) : Prop :=
  w.heap[Bm + 1]? = some (.cells #[.map (some Bm)] 44 (0, 0)) ∧ ∃ D : DataW Unit, w.ownsMap Tryz.prog 9 (plainElem Tryz.prog 3) Bm os.length D ∧ (∀ s : ByteArray, s.size ≤ maxLen → D.atKey (.string s.data.toList) (.lit (.int .i64 0)) = .lit (.int .i64 (oft os s))) ∧ ∀ s : ByteArray, has D (.string s.data.toList) = decide (0 < oft os s)

theorem zeroI (w : World) : (zeroValue 3).run Tryz.prog w = .ok (.int .i64 0) w := by kernel_rfl

theorem Holds.kept {w w' : World} {Bm : Nat} {os : List ByteArray} (h : Holds w Bm os) (hb : Below w.heap.size w w') : Holds w' Bm os := by
  obtain ⟨h1, D, h2, h3, h4⟩ := h
  have hlt := (Array.getElem?_eq_some_iff.1 h1).1
  refine ⟨by rw [hb.block _ hlt]; exact h1, D, ?_, h3, h4⟩
  obtain ⟨es, clock, ha, hr⟩ := h2
  exact ⟨es, clock, by rw [hb.block _ (by omega)]; exact ha, hr⟩

theorem oft_snoc (os : List ByteArray) (s t : ByteArray) : oft (os ++ [s]) t = oft os t + if s.data.toList == t.data.toList then 1 else 0 := by
  simp [oft, List.countP_append, List.countP_cons]

set_option maxHeartbeats 400000 in
theorem impl_found (s : ByteArray) (w : World) (Bm : Nat) (os : List ByteArray) (h : Holds w Bm os) (hs : s.size ≤ maxLen) (hn : os.length ≤ 1000000) :
    Calls Tryz.prog 33 #[.string s, .pointer (some ⟨Bm + 1, 0, none⟩)] w fun r w' => r = .returned (.tuple #[]) ∧ Holds w' Bm (os ++ [s]) ∧ w.grownBy w' (some Bm) := by
  obtain ⟨hbox, D, hown, hat, hhas⟩ := h
  have hkey := keyOf_string_mk (P := Tryz.prog) Tryz.underlying9 (s := s) hs
  have hcell : w.cell? ⟨Bm + 1, 0, none⟩ = some (.map (some Bm)) := by rw [cell_of_row _ _ _ _ _ _ hbox]; rfl
  have hD := hat s hs
  go_enter Tryz.func33, Tryz.ntmps33
  go_wp2_with (first
    | (at_lookup; refine wpList_lookup_own_int _ rfl _ _ 44 rfl 9 3 .i64 (string_keyed Tryz.underlying9) Tryz.underlying44 Tryz.underlying3 (zeroI _) Bm os.length _ rfl hown _ _ rfl hkey ?_; intro c hc hwc)
    | (at_mapUpdate; refine wpList_mapUpdate_own _ rfl _ _ _ 44 rfl 9 3 (string_keyed Tryz.underlying9) Tryz.underlying44 _ Bm os.length _ rfl hown (by unfold maxLen; omega) _ _ _ rfl rfl hkey _ [] (plainElem_int Tryz.underlying3 (wrap64_wf _)) ?_; intro w1 hown1 hgrow1))
  go_end0
  refine ⟨rfl, ⟨?_, D.put (.string s.data.toList) (.lit (.int .i64 (wrap64 (c + 1)))), ?_, fun t ht => ?_, fun t => ?_⟩, hgrow1⟩
  · rw [hgrow1.block (Bm + 1) (Array.getElem?_eq_some_iff.1 hbox).1 (by simp)]; exact hbox
  · rw [List.length_append]; exact hown1
  · rw [hD] at hc
    obtain rfl : (oft os s : Int) = c := by simpa using hc
    have hle : oft os s ≤ os.length := List.countP_le_length
    have hmap : IsMap D := by obtain ⟨es, cl, _, _, _, hd⟩ := hown; exact ⟨_, hd⟩
    rw [oft_snoc]
    by_cases he : s.data.toList = t.data.toList
    · rw [← he, atKey_put_same hmap (by trivial), if_pos (by simp), show wrap64 ((oft os s : Int) + 1) = oft os s + 1 by unfold wrap64; omega]
      simp [oft, he]
    · rw [atKey_put_other (fun h => he (Lit.string.inj h).symm), hat t ht, if_neg (by simpa using he), Nat.add_zero]
  · have hmap : IsMap D := by obtain ⟨es, cl, _, _, _, hd⟩ := hown; exact ⟨_, hd⟩
    rw [oft_snoc]
    by_cases he : s.data.toList = t.data.toList
    · rw [← he, has_put_same hmap (by trivial), if_pos (by simp)]
      simp
    · rw [has_put_other (fun h => he (Lit.string.inj h).symm), hhas t, if_neg (by simpa using he), Nat.add_zero]
end Go.Proofs.YtkkjpiikilhobaaGreatDoor
