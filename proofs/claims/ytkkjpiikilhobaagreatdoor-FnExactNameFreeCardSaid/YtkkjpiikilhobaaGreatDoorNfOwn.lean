/-
  Lists of names, ascending: the specification's l3With, at a row of the call's own.
-/
import Derived.Test.YtkkjpiikilhobaaGreatDoorNfWith
namespace Go.Proofs.YtkkjpiikilhobaaGreatDoor
open Go.RowKit

theorem wpList_append_src {ops : Array Oper} {rest : List Oper} {o : Oper} {a : Act} {w : World} {Q : Exit → Act → World → Prop} (hgd : o.guard = none) (s x : Operand)
    (ho : o.op = .call { callee := .builtin .append, args := #[s, x], argTypes := #[26, 26] })
    (B : Nat) (l m : List ByteArray) (v : Value) (hs : a.eval s = v) (hv : App w B l v) (ad : Addr) (n c : Nat) (hx : a.eval x = .slice (some ad) n c) (hn : m.length = n)
    (hc : ∀ j u, (m.map Value.string)[j]? = some u → w.cell? (ad.add j) = some u) (hl : l.length ≤ 2000000) (hm : m.length ≤ 2000000) (hB : B ≤ w.heap.size)
    (h : ∀ v' w', App w' B (l ++ m) v' → Below B w w' → wpList Tryz.prog ops Q rest (a.put o.dst v') w') : wpList Tryz.prog ops Q (o :: rest) a w := by
  subst hn
  exact wpList_append_app hgd s x ho B l m v hs hv ad c hx hc hl hm hB h

/-- Texts that stand in a block, one behind another. -/
def TextsAt (w : World) (g : Nat) (l : List ByteArray) : Prop := ∀ (j : Nat) (hj : j < l.length), w.cell? ⟨g, j, none⟩ = some (.string l[j])
theorem TextsAt.keep {w w' : World} {g : Nat} {l : List ByteArray} (h : TextsAt w g l) (hg : g < w.heap.size) (hb : Below w.heap.size w w') : TextsAt w' g l := fun j hj => by
  rw [← h j hj]; exact hb.cell hg
theorem TextsAt.take {w : World} {g : Nat} {l : List ByteArray} (h : TextsAt w g l) (k : Nat) : ∀ j u, ((l.take k).map Value.string)[j]? = some u → w.cell? ((⟨g, 0, none⟩ : Addr).add j) = some u := fun j u hj => by
  simp only [List.getElem?_map, Option.map_eq_some_iff, List.getElem?_take] at hj
  obtain ⟨x, hx, rfl⟩ := hj
  split at hx
  · obtain ⟨hj, rfl⟩ := List.getElem?_eq_some_iff.1 hx
    rw [Addr.add_mid]; simpa using h j hj
  · cases hx
theorem TextsAt.drop {w : World} {g : Nat} {l : List ByteArray} (h : TextsAt w g l) (k q : Nat) (hq : q = k) : ∀ j u, ((l.drop k).map Value.string)[j]? = some u → w.cell? ((⟨g, q, none⟩ : Addr).add j) = some u := fun j u hj => by
  subst hq
  simp only [List.getElem?_map, Option.map_eq_some_iff, List.getElem?_drop] at hj
  obtain ⟨x, hx, rfl⟩ := hj
  obtain ⟨hj, rfl⟩ := List.getElem?_eq_some_iff.1 hx
  rw [Addr.add_mid]; exact h _ hj
theorem TextsAt.none {w : World} {l : List ByteArray} (ad : Addr) (h : l = []) : ∀ j u, (l.map Value.string)[j]? = some u → w.cell? (ad.add j) = some u := fun j u hj => by subst h; simp at hj

set_option maxHeartbeats 1000000 in
theorem with_own (l : List ByteArray) (s : ByteArray) (g cap : Nat) (w : World) (hl : l.length ≤ 1000000) (hcap : l.length ≤ cap) (hcm : cap ≤ maxLen) (hg : g < w.heap.size) (HT : TextsAt w g l) (hv : Env w l (.slice (some ⟨g, 0, none⟩) l.length cap)) :
    Calls Tryz.prog 36 #[.slice (some ⟨g, 0, none⟩) l.length cap, .string s] w fun r w' => Bound w w' (withM l s) r := by
  unfold maxLen at hcm
  go_enter Tryz.func36, Tryz.ntmps36
  go_wp2_with fail
  go_loop [5] (fun i => ∃ k : Nat, k ≤ l.length ∧ i = .int .i64 k ∧ Hid (withM l s = l.take k ++ withM (l.drop k) s)) (fun i => l.length - (intOf i).toNat)
  case atStart => exact ⟨0, by omega, rfl, rfl⟩
  case round =>
    obtain ⟨k, hk, rfl, HK⟩ := hrel
    by_cases hlt : k < l.length
    · have hck := HT k hlt
      cases hle : Op.bytesLess l[k].toList s.toList
      · cases heq : (l[k].toList == s.toList)
        · have HW : Hid (withM l s = l.take k ++ [s] ++ l.drop k) := withM_new l s k hlt HK.out hle heq
          go_wp2_with (first
            | (at_builtin; refine wpList_append_src rfl (.tmp 34) (.tmp 37) rfl w.heap.size [] (l.take k) _ rfl (Or.inr ⟨_, rfl, rfl⟩) _ _ _ rfl (by simp <;> omega) ((HT.keep hg (below_al0 _ _)).take k) (by simp) (by simp <;> omega) (by simp) ?_; intro v1 w1 ha1 hb1; have hc1 : Below w.heap.size w w1 := (below_al0 _ _).trans hb1; have hz1 := hc1.size)
            | (at_builtin; refine wpList_append_src rfl (.tmp 39) (.tmp 41) rfl w.heap.size _ [s] _ rfl (App.keep ha1 (below_al0 _ _)) _ _ _ rfl rfl (one_cell_new _ _) (by simp <;> omega) (by simp) (Nat.le_trans hz1 (size_al _ _)) ?_; intro v2 w2 ha2 hb2; have hc2 : Below w.heap.size w w2 := (below_al hc1).trans hb2; have hz2 := hc2.size)
            | (at_builtin; refine wpList_append_src rfl (.tmp 43) (.tmp 46) rfl w.heap.size _ (l.drop k) _ rfl ha2 _ _ _ rfl (by simp <;> omega) ((HT.keep hg hc2).drop k _ (by omega)) (by simp <;> omega) (by simp <;> omega) hz2 ?_; intro v3 w3 ha3 hb3; have hc3 : Below w.heap.size w w3 := hc2.trans hb3))
          all_goals (go_ret; exact ⟨_, rfl, by rw [HW.out]; exact App.base ha3 (Nat.zero_le _), hc3⟩)
        · have HW : Hid (withM l s = l) := withM_eq l s k hlt HK.out hle heq
          go_wp2_with fail
          go_ret
          exact ⟨_, rfl, by rw [HW.out]; exact hv, Below.refl _ _⟩
      · have HW : Hid (withM l s = l.take (k + 1) ++ withM (l.drop (k + 1)) s) := withM_drop l s k hlt HK.out hle
        go_wp2_with fail
        go_round
        case rel => exact ⟨k + 1, by omega, by go_num, HW⟩
        case measure => simp [intOf]; omega
    · have HW : Hid (withM l s = l.take k ++ [s] ++ l.drop k) := by
        show _ = _
        rw [withM_end l s k (by omega) HK.out, List.take_of_length_le (by omega), List.drop_eq_nil_of_le (by omega), List.append_nil]
      by_cases hck : cap = k
      all_goals go_wp2_with (first
        | (at_builtin; refine wpList_append_src rfl (.tmp 34) (.tmp 37) rfl w.heap.size [] (l.take k) _ rfl (Or.inr ⟨_, rfl, rfl⟩) _ _ _ rfl (by simp <;> omega) ((HT.keep hg (below_al0 _ _)).take k) (by simp) (by simp <;> omega) (by simp) ?_; intro v1 w1 ha1 hb1; have hc1 : Below w.heap.size w w1 := (below_al0 _ _).trans hb1; have hz1 := hc1.size)
        | (at_builtin; refine wpList_append_src rfl (.tmp 39) (.tmp 41) rfl w.heap.size _ [s] _ rfl (App.keep ha1 (below_al0 _ _)) _ _ _ rfl rfl (one_cell_new _ _) (by simp <;> omega) (by simp) (Nat.le_trans hz1 (size_al _ _)) ?_; intro v2 w2 ha2 hb2; have hc2 : Below w.heap.size w w2 := (below_al hc1).trans hb2; have hz2 := hc2.size)
        | (at_builtin; refine wpList_append_src rfl (.tmp 43) (.tmp 46) rfl w.heap.size _ (l.drop k) _ rfl ha2 _ _ _ rfl (by simp <;> omega) (TextsAt.none _ (List.drop_eq_nil_of_le (by omega))) (by simp <;> omega) (by simp <;> omega) hz2 ?_; intro v3 w3 ha3 hb3; have hc3 : Below w.heap.size w w3 := hc2.trans hb3))
      all_goals (go_ret; exact ⟨_, rfl, by rw [HW.out]; exact App.base ha3 (Nat.zero_le _), hc3⟩)
end Go.Proofs.YtkkjpiikilhobaaGreatDoor
