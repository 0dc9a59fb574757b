/-
  Words that are ok: wordsOk, l7Words.
-/
import Derived.Test.YthmpgeppicbhlaaDoorWlRefs
import Derived.Deep.LoopGhost
namespace Go.Proofs.YthmpgeppicbhlaaDoor
open Go.RowKit

/-- Are words ok beside n cells? -/
def wordsM (n : Nat) (ws : List Wd) : Bool := ws.all fun d => decide (wordP n d.tag d.num)
theorem words_no {n : Nat} {ws : List Wd} {k : Nat} (hk : k < ws.length) (h : ¬ wordP n ws[k].tag ws[k].num) : wordsM n ws = false := by
  rw [wordsM, List.all_eq_false]
  exact ⟨ws[k], List.getElem_mem hk, by simpa using h⟩
theorem words_yes {n : Nat} {ws : List Wd} (h : ∀ k (hk : k < ws.length), wordP n ws[k].tag ws[k].num) : wordsM n ws = true := by
  rw [wordsM, List.all_eq_true]
  intro d hd
  obtain ⟨k, hk, rfl⟩ := List.getElem_of_mem hd
  exact decide_eq_true (h k hk)

set_option maxHeartbeats 1000000 in
theorem impl_wordsOk (n : Nat) (hn : n ≤ 9223372036854775807) (a : Option Addr) (cap : Nat) (ws : List Wd) (hws : ws.length ≤ 1048576) (vw : Value) (w : World) (hv : Words w (· < w.heap.size) ws vw) :
    Calls Tryd.prog 30 #[.slice a n cap, vw] w fun r w' => r = .returned (.bool (wordsM n ws)) ∧ Below w.heap.size w w' := by
  obtain ⟨wa, wcap, rfl⟩ := hv.slice
  go_enter Tryd.func30, Tryd.ntmps30
  go_wp2_with fail
  go_loopg [9] ws.length (fun g i wr => ∃ k : Nat, k + g = ws.length ∧ i = .int .i64 k ∧ Hid (∀ j (hj : j < ws.length), j < k → wordP n ws[j].tag ws[j].num) ∧ Below w.heap.size w wr)
  case atStart => exact ⟨0, by omega, rfl, fun j _ h => absurd h (by omega), Below.refl _ _⟩
  case round =>
    obtain ⟨k, hk, rfl, HA, hb⟩ := hrel
    by_cases hlt : k < ws.length
    · obtain ⟨b, off, hS, rfl, hr⟩ := hv.at k hlt
      obtain ⟨c0, c1⟩ := Wd.two (rw_same (hb.block b hS) hr)
      clear hr
      have hi : (k : Int) < (ws.length : Int) := by omega
      by_cases hp : wordP n ws[k].tag ws[k].num
      · have hc := fun w' => impl_wordOk_yes a n cap hn ws[k].tag ws[k].num w' hp
        have HP : Hid (∀ j (hj : j < ws.length), j < k + 1 → wordP n ws[j].tag ws[j].num) := fun j hj hjk => by
          by_cases e : j = k
          · subst e; exact hp
          · exact HA.out j hj (by omega)
        clear hp
        go_wp2_with (go_at_call 39; refine (hc _).mono ?_; rintro r w2 ⟨rfl, hb2⟩)
        go_roundg (ws.length - (k + 1))
        case measure => omega
        case rel => exact ⟨k + 1, by omega, by go_num, HP, (hb.alloc hb.size _).trans (hb2.mono (by have := hb.size; simp; omega))⟩
      · have hc := fun w' => impl_wordOk_no a n cap hn ws[k].tag ws[k].num w' hp
        have HN : Hid (wordsM n ws = false) := words_no hlt hp
        clear hp
        go_wp2_with (go_at_call 39; refine (hc _).mono ?_; rintro r w2 ⟨rfl, hb2⟩)
        go_ret
        exact ⟨by rw [HN.out]; rfl, (hb.alloc hb.size _).trans (hb2.mono (by have := hb.size; simp; omega))⟩
    · obtain rfl : k = ws.length := by omega
      have HY : Hid (wordsM n ws = true) := words_yes fun j hj => HA.out j hj hj
      have hi : ¬ (ws.length : Int) < (ws.length : Int) := by omega
      go_wp2_with fail
      go_ret
      exact ⟨by rw [HY.out]; rfl, hb⟩

theorem words_refs {n : Nat} {ws : List Wd} (h : wordsM n ws = true) : ∀ d ∈ ws, refOk n d := fun d hd => by
  rw [wordsM, List.all_eq_true] at h
  exact ref_of_word (of_decide_eq_true (h d hd))
end Go.Proofs.YthmpgeppicbhlaaDoor
