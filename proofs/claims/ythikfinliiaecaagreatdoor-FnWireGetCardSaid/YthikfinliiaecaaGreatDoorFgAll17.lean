/-
  Words and cells that are ok lead to cells.
  Words that are ok: wordsOk, l7Words.
  Cells and words as they are written down.
-/
import Derived.Test.YthikfinliiaecaaGreatDoorFgAll3
import Derived.Test.YthikfinliiaecaaGreatDoorHoImplB
import Derived.Test.YthikfinliiaecaaGreatDoorHoSpec
import Derived.Deep.LoopGhost
import Derived.Test.YthikfinliiaecaaGreatDoorFgAll14
namespace Go.Proofs.YthikfinliiaecaaGreatDoor
open Go.RowKit

theorem ref_of_word {n : Nat} {d : Wd} (h : wordP n d.tag d.num) : refOk n d := fun ht => by
  unfold wordP at h
  omega
theorem heap_refs {cs : List Ce} (h : heapM cs = true) : cs.length ≤ 120 ∧ ∀ c ∈ cs, refOk cs.length c.a ∧ refOk cs.length c.b := by
  rw [heapM, Bool.and_eq_true, List.all_eq_true] at h
  refine ⟨of_decide_eq_true h.1, fun c hc => ?_⟩
  have := of_decide_eq_true (h.2 c hc)
  unfold cellQ at this
  exact ⟨ref_of_word this.1, ref_of_word this.2.1⟩
theorem hc_next {w w2 w3 : World} (h1 : Below w.heap.size w w2) (h2 : Below w2.heap.size w2 w3) : Below w.heap.size w w3 := h1.trans (h2.mono h1.size)
end Go.Proofs.YthikfinliiaecaaGreatDoor

namespace Go.Proofs.YthikfinliiaecaaGreatDoor
open Go.RowKit

/-- Are words ok beside n cells? -/
def wordsM (n : Nat) (ws : List Wd) : Bool := ws.all fun d => decide (wordP n d.tag d.num)
theorem words_no {n : Nat} {ws : List Wd} {k : Nat} (hk : k < ws.length) (h : ¬ wordP n ws[k].tag ws[k].num) : wordsM n ws = false := by
  rw [wordsM, List.all_eq_false]
  exact ⟨ws[k], List.getElem_mem hk, by simpa using h⟩
theorem words_yes {n : Nat} {ws : List Wd} (h : ∀ k (hk : k < ws.length), wordP n ws[k].tag ws[k].num) : wordsM n ws = true := by
  rw [wordsM, List.all_eq_true]
  intro d hd
  obtain ⟨k, hk, rfl⟩ := List.getElem_of_mem hd
  exact decide_eq_true (h k hk)

set_option maxHeartbeats 1000000 in
theorem impl_wordsOk (n : Nat) (hn : n ≤ 9223372036854775807) (a : Option Addr) (cap : Nat) (ws : List Wd) (hws : ws.length ≤ 1048576) (vw : Value) (w : World) (hv : Words w (· < w.heap.size) ws vw) :
    Calls Tryz.prog 34 #[.slice a n cap, vw] w fun r w' => r = .returned (.bool (wordsM n ws)) ∧ Below w.heap.size w w' := by
  obtain ⟨wa, wcap, rfl⟩ := hv.slice
  go_enter Tryz.func34, Tryz.ntmps34
  go_wp2_with fail
  go_loopg [9] ws.length (fun g i wr => ∃ k : Nat, k + g = ws.length ∧ i = .int .i64 k ∧ Hid (∀ j (hj : j < ws.length), j < k → wordP n ws[j].tag ws[j].num) ∧ Below w.heap.size w wr)
  case atStart => exact ⟨0, by omega, rfl, fun j _ h => absurd h (by omega), Below.refl _ _⟩
  case round =>
    obtain ⟨k, hk, rfl, HA, hb⟩ := hrel
    by_cases hlt : k < ws.length
    · obtain ⟨b, off, hS, rfl, hr⟩ := hv.at k hlt
      obtain ⟨c0, c1⟩ := Wd.two (rw_same (hb.block b hS) hr)
      clear hr
      have hi : (k : Int) < (ws.length : Int) := by omega
      by_cases hp : wordP n ws[k].tag ws[k].num
      · have hc := fun w' => impl_wordOk_yes a n cap hn ws[k].tag ws[k].num w' hp
        have HP : Hid (∀ j (hj : j < ws.length), j < k + 1 → wordP n ws[j].tag ws[j].num) := fun j hj hjk => by
          by_cases e : j = k
          · subst e; exact hp
          · exact HA.out j hj (by omega)
        clear hp
        go_wp2_with (go_at_call 65; refine (hc _).mono ?_; rintro r w2 ⟨rfl, hb2⟩)
        go_roundg (ws.length - (k + 1))
        case measure => omega
        case rel => exact ⟨k + 1, by omega, by go_num, HP, (hb.alloc hb.size _).trans (hb2.mono (by have := hb.size; simp; omega))⟩
      · have hc := fun w' => impl_wordOk_no a n cap hn ws[k].tag ws[k].num w' hp
        have HN : Hid (wordsM n ws = false) := words_no hlt hp
        clear hp
        go_wp2_with (go_at_call 65; refine (hc _).mono ?_; rintro r w2 ⟨rfl, hb2⟩)
        go_ret
        exact ⟨by rw [HN.out]; rfl, (hb.alloc hb.size _).trans (hb2.mono (by have := hb.size; simp; omega))⟩
    · obtain rfl : k = ws.length := by omega
      have HY : Hid (wordsM n ws = true) := words_yes fun j hj => HA.out j hj hj
      have hi : ¬ (ws.length : Int) < (ws.length : Int) := by omega
      go_wp2_with fail
      go_ret
      exact ⟨by rw [HY.out]; rfl, hb⟩

theorem words_refs {n : Nat} {ws : List Wd} (h : wordsM n ws = true) : ∀ d ∈ ws, refOk n d := fun d hd => by
  rw [wordsM, List.all_eq_true] at h
  exact ref_of_word (of_decide_eq_true (h d hd))
end Go.Proofs.YthikfinliiaecaaGreatDoor

namespace Go.Proofs.YthikfinliiaecaaGreatDoor
open Go.RowKit

def trueB : List UInt8 := [116, 114, 117, 101]
def falseB : List UInt8 := [102, 97, 108, 115, 101]
def wordT (d : Wd) : List UInt8 :=
  if d.tag = 1 then Lib.itoa d.num else if d.tag = 2 then (if d.num = 1 then trueB else falseB) else if d.tag = 3 then [112, 105, 100] ++ Lib.itoa d.num else if d.tag = 4 then [97, 116] ++ Lib.itoa d.num else [110, 105, 108]
/-- The word of a kind. -/
def kindB (k : Int) : List UInt8 := if k = 1 then [112, 97, 105, 114] else if k = 2 then [99, 111, 110, 115] else if k = 3 then [101, 110, 118] else if k = 4 then [102, 117, 110] else [114, 101, 99]
def midT (c : Ce) : List UInt8 := if c.kind = 4 ∨ c.kind = 5 then Lib.itoa c.num else wordT c.a
def cellB (c : Ce) : List UInt8 := kindB c.kind ++ [32] ++ midT c ++ [32] ++ wordT c.b
def lineT (c : Ce) : List UInt8 := cellB c ++ [10]
def wireT (cs : List Ce) (d : Wd) : List UInt8 := wordT d ++ [10] ++ cs.flatMap lineT
/-- A cell that can be written: of a kind, its numbers of 64 bits. -/
structure Ce.Fine (c : Ce) : Prop where
  kind : 1 ≤ c.kind ∧ c.kind ≤ 5
  num : In64 c.num
  a : In64 c.a.num ∧ (c.a.tag = 2 → c.a.num = 0 ∨ c.a.num = 1)
  b : In64 c.b.num ∧ (c.b.tag = 2 → c.b.num = 0 ∨ c.b.num = 1)
theorem word_len {d : Wd} (h : In64 d.num) : (wordT d).length ≤ 23 := by
  have := itoa_len d.num h
  unfold wordT trueB falseB
  repeat' split
  all_goals (simp; try omega)
theorem kind_len (k : Int) : (kindB k).length ≤ 4 := by
  unfold kindB
  repeat' split
  all_goals simp
theorem line_len {c : Ce} (h : c.Fine) : (lineT c).length ≤ 60 := by
  have h1 := kind_len c.kind
  have h2 := word_len h.a.1
  have h3 := word_len h.b.1
  have h4 := itoa_len c.num h.num
  have h5 : (midT c).length ≤ 23 := by
    unfold midT
    split <;> omega
  simp only [lineT, cellB, List.length_append, List.length_cons, List.length_nil]
  omega
theorem lines_len : ∀ (l : List Ce), (∀ c ∈ l, c.Fine) → (l.flatMap lineT).length ≤ 60 * l.length
  | [], _ => by simp
  | x :: l, h => by
    have h1 := line_len (h x (by simp))
    have h2 := lines_len l (fun y hy => h y (by simp [hy]))
    rw [List.flatMap_cons, List.length_append, List.length_cons]
    omega
theorem word_fine {n : Nat} {d : Wd} (hn : n ≤ 1000) (h : wordP n d.tag d.num) : In64 d.num ∧ (d.tag = 2 → d.num = 0 ∨ d.num = 1) := by
  unfold wordP at h
  exact ⟨by unfold In64; omega, fun h2 => by omega⟩
theorem cell_fine {cs : List Ce} (h : heapM cs = true) : ∀ c ∈ cs, c.Fine := by
  intro c hc
  rw [heapM, Bool.and_eq_true, List.all_eq_true] at h
  have hl : cs.length ≤ 120 := of_decide_eq_true h.1
  have hp : cellP cs c := of_decide_eq_true (h.2 c hc)
  unfold cellP cellQ at hp
  obtain ⟨w1, w2, w3⟩ := hp
  refine ⟨by omega, by unfold In64; omega, word_fine (by omega) w1, word_fine (by omega) w2⟩
theorem take_lines (l : List Ce) (k : Nat) (h : k < l.length) : (l.take (k + 1)).flatMap lineT = (l.take k).flatMap lineT ++ lineT l[k] := by
  rw [List.take_succ_eq_append_getElem h, List.flatMap_append]
  simp
end Go.Proofs.YthikfinliiaecaaGreatDoor

