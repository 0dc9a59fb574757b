/-
  What HeapClean answers of cells and words that are ok: as many cells as the words lead to, ok, saying the same; and it answers the same of its own answer.
  What is written of cells is read back as what they are cleaned to, and says the same. Mathematics.
  The library's strings.CutPrefix, strings.Split at this program.
  A text's bytes as a list.
  Small things of numbers and texts.
-/
import Derived.Test.YtkollpgacheeoaaGreatDoorCnMath
import Derived.Test.YtkollpgacheeoaaGreatDoorHcTop
import Derived.Test.YtkollpgacheeoaaGreatDoorWpAll31
import Derived.Test.YtkollpgacheeoaaGreatDoorWgMath
import Derived.Test.YtkollpgacheeoaaGreatDoorWpAll2
import Derived.Shelf.Small.Wraps
import Derived.Shelf.Strings.Split
import Derived.Test.YtkollpgacheeoaaGreatDoorWpAll1
import Derived.WalkKit
import Derived.WalkSpells
namespace Go.Proofs.YtkollpgacheeoaaGreatDoor

theorem words_at {n : Nat} {ws : List Wd} (h : wordsM n ws = true) {x : Wd} (hx : x ∈ ws) : wordP n x.tag x.num := by
  rw [wordsM, List.all_eq_true] at h
  exact of_decide_eq_true (h x hx)
theorem words_of {n : Nat} {ws : List Wd} (h : ∀ x ∈ ws, wordP n x.tag x.num) : wordsM n ws = true := by
  rw [wordsM, List.all_eq_true]
  intro x hx
  exact decide_eq_true (h x hx)
theorem clean_no {cs : List Ce} {ws : List Wd} (h : ¬ (heapM cs = true ∧ wordsM cs.length ws = true)) : cleanC cs ws = [] ∧ cleanW cs ws = [] :=
  ⟨by rw [cleanC, if_neg h], by rw [cleanW, if_neg h]⟩
/-- What is cleaned is ok, as many as the words lead to, and the words say the same; cleaned again it stays. -/
theorem clean_yes {cs : List Ce} {ws : List Wd} (hh : heapM cs = true) (hw : wordsM cs.length ws = true) :
    heapM (cleanC cs ws) = true ∧ (cleanC cs ws).length = (reachM cs ws).length ∧ (cleanW cs ws).length = ws.length ∧
    (∀ (i : Nat) (x d : Wd), (cleanW cs ws)[i]? = some x → ws[i]? = some d → x.tag = d.tag ∧ writeM (cleanC cs ws) x.tag x.num = writeM cs d.tag d.num) ∧
    cleanC (cleanC cs ws) (cleanW cs ws) = cleanC cs ws ∧ cleanW (cleanC cs ws) (cleanW cs ws) = cleanW cs ws := by
  have hwr := words_refs hw
  obtain ⟨h120, hrefs⟩ := heap_refs hh
  obtain ⟨todo, hC, hL, hW⟩ := copy_cp (tl := []) hrefs hwr
  have e1 : cleanC cs ws = (copyS cs [] ws).to := by rw [cleanC, if_pos ⟨hh, hw⟩]
  have e2 : cleanW cs ws = wordsW cs (st0 cs []) ws := by rw [cleanW, if_pos ⟨hh, hw⟩]
  have hlen := copy_len (tl := []) hh hw
  simp only [List.length_nil, Nat.zero_add] at hlen
  have hrl : (reachM cs ws).length ≤ cs.length := by
    rw [reachM, if_pos ⟨hh, hw⟩]
    have hml : (copyS cs [] ws).mv.length = cs.length := loop_mv cs hrefs (cs.length + 1) _ 0 0 (Inv.words hrefs ws _ (inv0 cs []) hwr)
    have := takenTo_le (inM (copyS cs [] ws)) (inM (copyS cs [] ws)).length
    rw [inM_length, hml] at this
    show (takenM _).length ≤ _
    unfold takenM
    rw [inM_length, hml]
    exact this
  have hmk : ∀ x ∈ ws, x.tag = 4 → Mk (copyS cs [] ws) x.num.toNat := fun x hx h4 => (hL _).2 (.first x hx h4)
  have hheap := cp_heap hC hh (by rw [heapM]; rfl) (by omega)
  have hwok : wordsM (copyS cs [] ws).to.length (wordsW cs (st0 cs []) ws) = true := by
    rw [hW]
    refine words_of fun y hy => ?_
    obtain ⟨x, hx, rfl⟩ := List.mem_map.1 hy
    exact cp_word hC (words_at hw hx) (hmk x hx)
  obtain ⟨a1, a2⟩ := copy_again hrefs hwr
  rw [e1, e2]
  refine ⟨hheap, hlen, wordsW_length _ _ _, fun i x d hi hd => ?_, ?_, ?_⟩
  · rw [hW, List.getElem?_map, hd] at hi
    have e : mvW (copyS cs [] ws) d = x := by simpa using hi
    subst e
    have hd' := List.mem_of_getElem? hd
    refine ⟨mvW_tag d, ?_⟩
    rw [writeM, if_pos ⟨hheap, cp_word hC (words_at hw hd') (hmk d hd')⟩, writeM, if_pos ⟨hh, words_at hw hd'⟩]
    exact cp_text hC 14 d (hmk d hd')
  · rw [cleanC, if_pos ⟨hheap, hwok⟩]
    exact a1
  · rw [cleanW, if_pos ⟨hheap, hwok⟩]
    exact a2
end Go.Proofs.YtkollpgacheeoaaGreatDoor

namespace Go.Proofs.YtkollpgacheeoaaGreatDoor
open Go.RowKit

/-- What a word is cleaned to. -/
def headW (cs : List Ce) (d : Wd) : Wd := (cleanW cs [d]).headD ⟨0, 0⟩
theorem clean_head {cs : List Ce} {d : Wd} (h : okW cs d) : cleanW cs [d] = [headW cs d] := by
  obtain ⟨x, ex, _⟩ := wire_yes h
  unfold headW
  rw [ex]
  rfl
/-- What is written is read back. -/
theorem wire_back {cs : List Ce} {d : Wd} (h : okW cs d) (h4 : (wireM cs d).length ≤ 4000) : getW (wireM cs d) = some (cleanC cs [d], headW cs d) := by
  have ex := clean_head h
  obtain ⟨x, ex', hheap, hwp⟩ := wire_yes h
  obtain rfl : x = headW cs d := by
    rw [ex] at ex'
    simpa using ex'.symm
  obtain ⟨f1, f2, f3, f4, f5, f6⟩ := clean_yes h.1 h.2
  have e3 : wireM cs d = wireT (cleanC cs [d]) (headW cs d) := by rw [wireM, if_pos h]; rfl
  obtain ⟨p1, p2⟩ := prog_own hheap hwp
  rw [← e3] at p1 p2
  have hok : okW (cleanC cs [d]) (headW cs d) := ⟨hheap, words_of fun y hy => by
    have e : y = headW cs d := by simpa using hy
    rw [e]
    exact hwp⟩
  have e4 : wireM (cleanC cs [d]) (headW cs d) = wireM cs d := by
    rw [wireM, if_pos hok, e3]
    rw [ex] at f5 f6
    rw [f5, f6]
    rfl
  have hne : wireM cs d ≠ [] := by
    rw [e3]
    unfold wireT
    simp
  unfold getW
  rw [p1, p2, if_pos ⟨hne, h4, e4⟩]
theorem wire_ne {cs : List Ce} {d : Wd} (h : okW cs d) : wireM cs d ≠ [] := by
  rw [wireM, if_pos h]
  unfold wireT
  simp
theorem wire_none {cs : List Ce} {d : Wd} (h : ¬ okW cs d) : wireM cs d = [] := by
  rw [wireM, if_neg h]
theorem wire_same {cs : List Ce} {d : Wd} (h : okW cs d) : writeM (cleanC cs [d]) (headW cs d).tag (headW cs d).num = writeM cs d.tag d.num := by
  obtain ⟨_, _, _, f4, _, _⟩ := clean_yes h.1 h.2
  exact (f4 0 (headW cs d) d (by rw [clean_head h]; rfl) rfl).2
theorem wire_len' {cs : List Ce} {d : Wd} : (wireM cs d).length ≤ 8000 := by
  by_cases h : okW cs d
  · obtain ⟨x, ex, hheap, hwp⟩ := wire_yes h
    have hfine := cell_fine hheap
    have h120 : (cleanC cs [d]).length ≤ 120 := (heap_refs hheap).1
    have hxf := word_fine (by omega) hwp
    have h1 := word_len hxf.1
    have h2 := lines_len _ hfine
    rw [wireM, if_pos h, ex]
    show (wireT (cleanC cs [d]) x).length ≤ 8000
    unfold wireT
    simp only [List.length_append, List.length_cons, List.length_nil]
    omega
  · rw [wire_none h]
    exact Nat.zero_le _
end Go.Proofs.YtkollpgacheeoaaGreatDoor

namespace Go.Proofs.YtkollpgacheeoaaGreatDoor
open Go.RowKit Go.Shelf

shelf_lay Lays.n103 Nm 103 at Tryz as lays103
shelf_lay Lays.n146 Nm 146 at Tryz as lays146
theorem cut_prefix (l p : List UInt8) (w : World) : Calls Tryz.prog 47 #[.string (bx l), .string (bx p)] w fun e w' => e = .returned (.tuple #[.string (bx (Lib.trimPrefix l p)), .bool (Lib.hasPrefix l p)]) ∧ w' = w :=
  Any.strings_CutPrefix lays103 (bx l) (bx p) w
theorem str_info9 : (Tryz.prog.info? 9).map (fun i => (i.zero, i.size, i.bytes)) = some (some (.string ByteArray.empty), 1, 16) := by kernel_rfl
/-- The pieces of a text, as values. -/
def piecesV (l p : List UInt8) : List Value := (Lib.split l p).map fun x => .string (bx x)
theorem pieces_raw (l p : List UInt8) : (Lib.splitB (bx p) 0 (Lib.countB (bx l) (bx p)) (bx l)).map Value.string = piecesV l p := by
  have h := Lib.splitB_data (bx p) 0 (Lib.countB (bx l) (bx p)) (bx l)
  have e : Lib.split l p = (Lib.splitB (bx p) 0 (Lib.countB (bx l) (bx p)) (bx l)).map (·.data.toList) := h.symm
  unfold piecesV
  rw [e, List.map_map]
  rfl
theorem str_split (l p : List UInt8) (hl : l.length ≤ 1048576) (hp : 1 ≤ p.length) (w : World) (h : RTab w) : Calls Tryz.prog 51 #[.string (bx l), .string (bx p)] w fun e w' =>
    e = .returned (.slice (some ⟨w.heap.size, 0, none⟩) (Lib.split l p).length (Lib.split l p).length) ∧ w' = w.alloc (.cells (piecesV l p).toArray 9) := by
  obtain ⟨m, hm⟩ := h.most
  have hlen : (piecesV l p).length = Lib.countB (bx l) (bx p) + 1 := by
    rw [← pieces_raw, List.length_map]
    exact Lib.splitB_all (bx p) (by rw [bx_size]; exact hp) 0 _ (bx l) rfl
  have hlen2 : (Lib.split l p).length = Lib.countB (bx l) (bx p) + 1 := by
    rw [← hlen]
    unfold piecesV
    rw [List.length_map]
  refine (Any.strings_Split lays146 str_info9 (bx l) (bx p) m w (by rw [bx_size]; omega) hm (by rw [bx_size]; exact hp)).mono ?_
  rintro e w' ⟨rfl, rfl⟩
  rw [pieces_raw, hlen2]
  exact ⟨rfl, rfl⟩
end Go.Proofs.YtkollpgacheeoaaGreatDoor

namespace Go.Proofs.YtkollpgacheeoaaGreatDoor
theorem bx_toList (l : List UInt8) : (bx l).toList = l := ByteArray.toList_eq (bx l)
end Go.Proofs.YtkollpgacheeoaaGreatDoor

namespace Go.Proofs.YtkollpgacheeoaaGreatDoor
open Go.RowKit

theorem ck_wr (z : Int) (h1 : -9223372036854775808 ≤ z) (h2 : z < 9223372036854775808) : IntKind.i64.wrap z = z := by
  simp [IntKind.wrap, IntKind.bits, IntKind.signed]
  omega
end Go.Proofs.YtkollpgacheeoaaGreatDoor

