/-
  What is bound around: lists of texts, where a name was bound last, what a kind binds in a part.
-/
import Derived.Test.YtmjbfenjalmnlaaDoorExSz
import Derived.Test.YtmjbfenjalmnlaaDoorNmWalks
import Derived.Lib.LazyBuf
namespace Go.Proofs.YtmjbfenjalmnlaaDoor
open Go.RowKit

/-- The texts l lie in w as the slice v, in a block of their own from B on (or there are none, and no room). -/
def App (w : World) (B : Nat) (l : List ByteArray) (v : Value) : Prop := w.ownsRow B 9 1 v l.length (l.map .string) ∨ ∃ ad, v = .slice (some ad) 0 0 ∧ l = []
def Env (w : World) (l : List ByteArray) (v : Value) : Prop := App w 0 l v
theorem Env.nil (w : World) : Env w [] (.slice none 0 0) := Or.inl (World.ownsRow_nil w 0 _ 1)
theorem ownsRow_base {w : World} {B B' n : Nat} {e : TypeId} {v : Value} {xs : List Value} (h : w.ownsRow B e 1 v n xs) (hB : B' ≤ B) : w.ownsRow B' e 1 v n xs := by
  obtain ⟨h1, h2⟩ := h
  refine ⟨h1, ?_⟩
  rcases h2 with h2 | ⟨g, cap, cur, hv, hg, r⟩
  · exact Or.inl h2
  · exact Or.inr ⟨g, cap, cur, hv, by omega, r⟩
theorem ownsRow_keep {w w' : World} {B n : Nat} {e : TypeId} {v : Value} {xs : List Value} (h : w.ownsRow B e 1 v n xs) (hb : Below w.heap.size w w') : w'.ownsRow B e 1 v n xs := by
  obtain ⟨h1, h2⟩ := h
  refine ⟨h1, ?_⟩
  rcases h2 with h2 | ⟨g, cap, cur, hv, hg, hh, r⟩
  · exact Or.inl h2
  · exact Or.inr ⟨g, cap, cur, hv, hg, by rw [hb.block g (Array.getElem?_eq_some_iff.1 hh).1]; exact hh, r⟩
theorem App.base {w : World} {B B' : Nat} {l : List ByteArray} {v : Value} (h : App w B l v) (hB : B' ≤ B) : App w B' l v := by
  rcases h with h | h
  · exact Or.inl (ownsRow_base h hB)
  · exact Or.inr h
theorem App.keep {w w' : World} {B : Nat} {l : List ByteArray} {v : Value} (h : App w B l v) (hb : Below w.heap.size w w') : App w' B l v := by
  rcases h with h | h
  · exact Or.inl (ownsRow_keep h hb)
  · exact Or.inr h
theorem Env.keep {w w' : World} {l : List ByteArray} {v : Value} (h : Env w l v) (hb : Below w.heap.size w w') : Env w' l v := App.keep h hb
theorem Env.drew {w : World} {l : List ByteArray} {v : Value} (h : Env w l v) : Env w.drew l v := h
/-- The slice, and its texts. -/
theorem Env.open {w : World} {l : List ByteArray} {v : Value} (h : Env w l v) : ∃ a cap, v = .slice a l.length cap ∧ (∀ (j : Nat) (hj : j < l.length), ∃ g, a = some ⟨g, 0, none⟩ ∧ w.cell? ⟨g, j, none⟩ = some (.string l[j])) := by
  rcases h with h | ⟨ad, rfl, rfl⟩
  · have h0 := h
    obtain ⟨_, h2⟩ := h
    rcases h2 with ⟨rfl, hn⟩ | ⟨g, cap, cur, rfl, hg, hh, r⟩
    · exact ⟨none, 0, by rw [hn], fun j hj => by omega⟩
    · refine ⟨some ⟨g, 0, none⟩, cap, rfl, fun j hj => ⟨g, rfl, ?_⟩⟩
      have := World.ownsRow.cellAt h0 j (by omega)
      rw [this]; simp [hj]
  · exact ⟨some ad, 0, rfl, fun j hj => by simp at hj⟩

/-- Where a text stands last among the first k; -1 if nowhere. -/
def lastTo (l : List ByteArray) (s : ByteArray) : Nat → Int
  | 0 => -1
  | k + 1 => if (l.getD k ⟨#[]⟩).toList == s.toList then k else lastTo l s k
theorem lastTo_bd (l : List ByteArray) (s : ByteArray) : ∀ k, -1 ≤ lastTo l s k ∧ lastTo l s k < k
  | 0 => by simp [lastTo]
  | k + 1 => by
    have := lastTo_bd l s k
    rw [lastTo]; split <;> omega
theorem lastTo_yes (l : List ByteArray) (s : ByteArray) (k : Nat) (hk : k < l.length) (h : (l[k].toList == s.toList) = true) : lastTo l s (k + 1) = k := by
  rw [lastTo, if_pos (by simpa [List.getD, hk] using h)]
theorem lastTo_no (l : List ByteArray) (s : ByteArray) (k : Nat) (hk : k < l.length) (h : (l[k].toList == s.toList) = false) : lastTo l s (k + 1) = lastTo l s k := by
  rw [lastTo, if_neg (by simpa [List.getD, hk] using h)]

set_option maxHeartbeats 400000 in
theorem impl_lastPlace (l : List ByteArray) (s : ByteArray) (v : Value) (w : World) (hl : l.length ≤ 1000000) (hv : Env w l v) :
    Calls Tryd.prog 20 #[v, .string s] w fun r w' => r = .returned (.int .i64 (lastTo l s l.length)) ∧ w = w' := by
  obtain ⟨a, cap, rfl, hcell⟩ := hv.open
  go_enter Tryd.func20, Tryd.ntmps20
  go_wp2_with fail
  go_loop [5] (fun i => ∃ k : Nat, k ≤ l.length ∧ i = .int .i64 ((k : Int) - 1) ∧ Hid (lastTo l s l.length = lastTo l s k)) (fun i => (intOf i + 1).toNat)
  case atStart => exact ⟨l.length, Nat.le_refl _, rfl, rfl⟩
  case round =>
    obtain ⟨k, hk, rfl, HK⟩ := hrel
    by_cases hz : k = 0
    · subst hz
      go_wp2_with fail
      go_ret
      exact ⟨ret_int HK.out.symm, rfl⟩
    · obtain ⟨j, rfl⟩ : ∃ j, k = j + 1 := ⟨k - 1, by omega⟩
      obtain ⟨g, rfl, hc⟩ := hcell j (by omega)
      have hj : ((j + 1 : Nat) : Int) - 1 = (j : Int) := by omega
      rw [hj]
      go_wp2_with fail
      · go_ret
        exact ⟨ret_int (by rw [HK.out, lastTo_yes l s j (by omega) ‹_›]), rfl⟩
      · go_round
        case rel => exact ⟨j, by omega, rfl, by show _ = _; rw [HK.out, lastTo_no l s j (by omega) ‹_›]⟩
        case measure => simp [intOf]
end Go.Proofs.YtmjbfenjalmnlaaDoor
