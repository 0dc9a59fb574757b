/-
  Lists of names, ascending: the specification's l3With, l3All, l3Less.
-/
import Derived.Test.YtkkjpiikilhobaaGreatDoorNfOwn
namespace Go.Proofs.YtkkjpiikilhobaaGreatDoor
open Go.RowKit

theorem Env.texts {w : World} {l : List ByteArray} {v : Value} (h : Env w l v) : (l = [] ∧ (v = .slice none 0 0 ∨ ∃ ad, v = .slice (some ad) 0 0)) ∨ ∃ g cap, v = .slice (some ⟨g, 0, none⟩) l.length cap ∧ g < w.heap.size ∧ l.length ≤ cap ∧ cap ≤ maxLen ∧ TextsAt w g l := by
  rcases h with h | ⟨ad, rfl, rfl⟩
  · have h0 := h
    obtain ⟨h1, h2⟩ := h
    rcases h2 with ⟨rfl, hn⟩ | ⟨g, cap, cur, rfl, hg, hh, hn, hm, r⟩
    · exact Or.inl ⟨List.length_eq_zero_iff.1 hn, Or.inl rfl⟩
    · refine Or.inr ⟨g, cap, rfl, (Array.getElem?_eq_some_iff.1 hh).1, by omega, hm, fun j hj => ?_⟩
      have := World.ownsRow.cellAt h0 j (by omega)
      rw [this]; simp [hj]
  · exact Or.inl ⟨rfl, Or.inr ⟨ad, rfl⟩⟩

theorem one_cell_at (w : World) (s : ByteArray) (n : Nat) (hn : n = w.heap.size) : ∀ j u, ([s].map Value.string)[j]? = some u → (w.alloc (.cells #[.string s] 9)).cell? ((⟨n, 0, none⟩ : Addr).add j) = some u := by subst hn; exact one_cell_new w s

set_option maxHeartbeats 1000000 in
theorem with_nil (s : ByteArray) (w : World) :
    Calls Tryz.prog 36 #[.slice none 0 0, .string s] w fun r w' => Bound w w' [s] r := by
  go_enter Tryz.func36, Tryz.ntmps36
  go_wp2_with fail
  go_loop [5] (fun i => i = .int .i64 0) (fun _ => 0)
  case atStart => rfl
  case round =>
    subst hrel
    go_wp2_with (first
      | (at_builtin; refine wpList_append_nil rfl (.tmp 34) (.tmp 37) rfl _ rfl (Or.inl ⟨_, _, _, rfl, Nat.le_refl _⟩) rfl ?_)
      | (at_builtin; refine wpList_append_src rfl (.tmp 39) (.tmp 41) rfl w.heap.size [] [s] _ rfl (Or.inr ⟨_, rfl, rfl⟩) _ _ _ rfl rfl (one_cell_at _ _ _ (by simp)) (by simp) (by simp) (Nat.le_trans (size_al _ _) (size_al _ _)) ?_; intro v2 w2 ha2 hb2; have hc2 : Below w.heap.size w w2 := (below_al (below_al0 _ _)).trans hb2)
      | (at_builtin; refine wpList_append_nil rfl (.tmp 43) (.tmp 46) rfl _ rfl (App.room ha2) rfl ?_))
    go_ret
    exact ⟨_, rfl, App.base ha2 (Nat.zero_le _), hc2⟩

set_option maxHeartbeats 1000000 in
theorem with_empty (s : ByteArray) (ad : Addr) (w : World) :
    Calls Tryz.prog 36 #[.slice (some ad) 0 0, .string s] w fun r w' => Bound w w' [s] r := by
  go_enter Tryz.func36, Tryz.ntmps36
  go_wp2_with fail
  go_loop [5] (fun i => i = .int .i64 0) (fun _ => 0)
  case atStart => rfl
  case round =>
    subst hrel
    go_wp2_with (first
      | (at_builtin; refine wpList_append_src rfl (.tmp 34) (.tmp 37) rfl w.heap.size [] [] _ rfl (Or.inr ⟨_, rfl, rfl⟩) _ _ _ rfl rfl (TextsAt.none _ rfl) (by simp) (by simp) (by simp <;> omega) ?_; intro v1 w1 ha1 hb1; have hc1 : Below w.heap.size w w1 := (below_al0 _ _).trans hb1; have hz1 := hc1.size)
      | (at_builtin; refine wpList_append_src rfl (.tmp 39) (.tmp 41) rfl w.heap.size [] [s] _ rfl (App.keep ha1 (below_al0 _ _)) _ _ _ rfl rfl (one_cell_new _ _) (by simp) (by simp) (Nat.le_trans hz1 (size_al _ _)) ?_; intro v2 w2 ha2 hb2; have hc2 : Below w.heap.size w w2 := (below_al hc1).trans hb2; have hz2 := hc2.size)
      | (at_builtin; refine wpList_append_src rfl (.tmp 43) (.tmp 46) rfl w.heap.size [s] [] _ rfl ha2 _ _ _ rfl rfl (TextsAt.none _ rfl) (by simp) (by simp) hz2 ?_; intro v3 w3 ha3 hb3; have hc3 : Below w.heap.size w w3 := hc2.trans hb3))
    go_ret
    exact ⟨_, rfl, App.base ha3 (Nat.zero_le _), hc3⟩

theorem spec_l3With (l : List ByteArray) (s : ByteArray) (v : Value) (w : World) (hl : l.length ≤ 1000000) (hv : Env w l v) :
    Calls Tryz.prog 36 #[v, .string s] w fun r w' => Bound w w' (withM l s) r := by
  rcases hv.texts with ⟨rfl, rfl | ⟨ad, rfl⟩⟩ | ⟨g, cap, rfl, hg, hn, hm, HT⟩
  · exact with_nil s w
  · exact with_empty s ad w
  · exact with_own l s g cap w hl hn hm hg HT hv

/-- A list of names with those of another. -/
def allM (a b : List ByteArray) : List ByteArray := b.foldl withM a
theorem allM_take (a b : List ByteArray) (k : Nat) (hk : k < b.length) : allM a (b.take (k + 1)) = withM (allM a (b.take k)) b[k] := by
  rw [allM, List.take_succ_eq_append_getElem hk, List.foldl_append]; rfl
theorem allM_length (a b : List ByteArray) : (allM a b).length ≤ a.length + b.length := by
  induction b generalizing a with
  | nil => simp [allM]
  | cons x b ih =>
    have h := ih (withM a x)
    have := withM_length a x
    simp only [allM, List.foldl_cons, List.length_cons] at h ⊢
    omega

/-- A list of names without one. -/
def lessM (l : List ByteArray) (s : ByteArray) : List ByteArray := l.filter fun x => !(x.toList == s.toList)
theorem lessM_yes (l : List ByteArray) (s : ByteArray) (k : Nat) (hk : k < l.length) (h : (l[k].toList == s.toList) = true) : lessM (l.take (k + 1)) s = lessM (l.take k) s := by
  rw [lessM, List.take_succ_eq_append_getElem hk, List.filter_append]; simp [h, lessM]
theorem lessM_no (l : List ByteArray) (s : ByteArray) (k : Nat) (hk : k < l.length) (h : (l[k].toList == s.toList) = false) : lessM (l.take (k + 1)) s = lessM (l.take k) s ++ [l[k]] := by
  rw [lessM, List.take_succ_eq_append_getElem hk, List.filter_append]; simp [h, lessM]
theorem lessM_length (l : List ByteArray) (s : ByteArray) : (lessM l s).length ≤ l.length := List.length_filter_le _ _
end Go.Proofs.YtkkjpiikilhobaaGreatDoor
