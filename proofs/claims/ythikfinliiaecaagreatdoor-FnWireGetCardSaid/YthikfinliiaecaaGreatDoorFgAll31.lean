/-
  The program's WirePut.
  The specification's l12Word, l12Kinds, l12Put, WirePut.
-/
import Derived.Test.YthikfinliiaecaaGreatDoorFgAll20
import Derived.Test.YthikfinliiaecaaGreatDoorCnMath
import Derived.Test.YthikfinliiaecaaGreatDoorHcTop
import Derived.Deep.LoopGhost
import Derived.Test.YthikfinliiaecaaGreatDoorWlSpec
import Derived.Deep.QuietTactic
import Derived.BigQuiet
namespace Go.Proofs.YthikfinliiaecaaGreatDoor
open Go.RowKit

/-- What WirePut answers. -/
def okW (cs : List Ce) (d : Wd) : Prop := heapM cs = true ∧ wordsM cs.length [d] = true
instance (cs : List Ce) (d : Wd) : Decidable (okW cs d) := by unfold okW; infer_instance
def wireM (cs : List Ce) (d : Wd) : List UInt8 := if okW cs d then wireT (cleanC cs [d]) ((cleanW cs [d]).headD ⟨0, 0⟩) else []
theorem wire_no {cs : List Ce} {d : Wd} (h : ¬ okW cs d) : cleanC cs [d] = [] ∧ cleanW cs [d] = [] := ⟨by rw [cleanC]; exact if_neg h, by rw [cleanW]; exact if_neg h⟩
theorem wire_yes {cs : List Ce} {d : Wd} (h : okW cs d) : ∃ x, cleanW cs [d] = [x] ∧ heapM (cleanC cs [d]) = true ∧ wordP (cleanC cs [d]).length x.tag x.num := by
  obtain ⟨hh, hw⟩ := h
  have hwr := words_refs hw
  obtain ⟨h120, hrefs⟩ := heap_refs hh
  obtain ⟨todo, hC, hL, hW⟩ := copy_cp (tl := []) hrefs hwr
  have e1 : cleanC cs [d] = (copyS cs [] [d]).to := by rw [cleanC, if_pos ⟨hh, hw⟩]
  have e2 : cleanW cs [d] = wordsW cs (st0 cs []) [d] := by rw [cleanW, if_pos ⟨hh, hw⟩]
  have hlen := copy_len (tl := []) hh hw
  simp only [List.length_nil, Nat.zero_add] at hlen
  have hrl : (reachM cs [d]).length ≤ cs.length := by
    rw [reachM, if_pos ⟨hh, hw⟩]
    have hml : (copyS cs [] [d]).mv.length = cs.length := loop_mv cs hrefs (cs.length + 1) _ 0 0 (Inv.words hrefs [d] _ (inv0 cs []) hwr)
    have := takenTo_le (inM (copyS cs [] [d])) (inM (copyS cs [] [d])).length
    rw [inM_length, hml] at this
    show (takenM _).length ≤ _
    unfold takenM
    rw [inM_length, hml]
    exact this
  have hmk : d.tag = 4 → Mk (copyS cs [] [d]) d.num.toNat := fun h4 => (hL _).2 (.first d (by simp) h4)
  have hwp : wordP cs.length d.tag d.num := by
    rw [wordsM, List.all_eq_true] at hw
    exact of_decide_eq_true (hw d (by simp))
  rw [e1, e2, hW]
  exact ⟨mvW (copyS cs [] [d]) d, rfl, cp_heap hC hh (by rw [heapM]; rfl) (by omega), cp_word hC hwp hmk⟩
theorem wi_cells {w : World} {B : Nat} {l : List Ce} {v : Value} (h : w.ownsRow B 48 6 v l.length (l.flatMap Ce.cells)) : Cells w (· < w.heap.size) l v := (OwnR.row (α := Ce) (f := Ce.cells) h (fun _ => rfl)).same fun _ hb => ⟨rfl, hb.2⟩
theorem wi_words {w : World} {B : Nat} {l : List Wd} {v : Value} (h : w.ownsRow B 26 2 v l.length (l.flatMap Wd.cells)) : Words w (· < w.heap.size) l v := (OwnR.row (α := Wd) (f := Wd.cells) h (fun _ => rfl)).same fun _ hb => ⟨rfl, hb.2⟩
theorem wi_lit (w : World) (d : Wd) : Words (w.alloc (.cells #[.int .i64 d.tag, .int .i64 d.num] 26)) (· < (w.alloc (.cells #[.int .i64 d.tag, .int .i64 d.num] 26)).heap.size) [d] (.slice (some ⟨w.heap.size, 0, none⟩) 1 1) :=
  ⟨_, 1, rfl, fun i y hi => by
    match i with
    | 0 =>
      have e : d = y := by simpa using hi
      subst e
      refine ⟨w.heap.size, 0, by simp, rfl, fun j u hj => ?_⟩
      rw [cell_of_row _ _ _ _ _ _ (heap_alloc_new w _)]
      simpa [Wd.cells] using hj
    | i + 1 => simp at hi⟩

set_option maxRecDepth 100000 in
set_option maxHeartbeats 4000000 in
theorem impl_WirePut (cs : List Ce) (hn : cs.length ≤ 1048576) (d : Wd) (v : Value) (w : World) (hv : Cells w (· < w.heap.size) cs v) (hT : PowTab w) (hC : CTab w) :
    Calls Tryz.prog 8 #[v, .agg #[.int .i64 d.tag, .int .i64 d.num]] w fun r w' => r = .returned (.string (bx (wireM cs d))) ∧ Below w.heap.size w w' := by
  obtain ⟨ca, ccap, rfl⟩ := hv.slice
  have hb0 : Below w.heap.size w (w.alloc (.cells #[.int .i64 d.tag, .int .i64 d.num] 26)) := (Below.refl _ _).alloc (Nat.le_refl _) _
  have hb1 : Below w.heap.size w ((w.alloc (.cells #[.int .i64 d.tag, .int .i64 d.num] 26)).alloc (.cells #[.int .i64 d.tag, .int .i64 d.num] 26)) := hb0.alloc (by simp) _
  have HI := impl_HeapClean cs hn [d] (by simp) (.slice ca cs.length ccap) (.slice (some ⟨w.heap.size + 1, 0, none⟩) 1 1) _ (hv.keep hb1 hb1.size) (by simpa using wi_lit (w.alloc (.cells #[.int .i64 d.tag, .int .i64 d.num] 26)) d)
  by_cases hok : okW cs d
  case neg =>
    obtain ⟨e1, e2⟩ := wire_no hok
    rw [e1, e2] at HI
    have e3 : wireM cs d = [] := by rw [wireM, if_neg hok]
    rw [e3]
    clear hok e1 e2 e3
    go_enter Tryz.func8, Tryz.ntmps8
    go_wp2_with (first | (go_at_call 28; refine HI.mono ?_; rintro e w2 ⟨⟨v1, v2, rfl, hO1, hO2, hb2⟩, _⟩; (obtain ⟨a2, c2, rfl⟩ := (wi_words hO2).slice)))
    go_ret
    exact ⟨rfl, hb1.trans (hb2.mono hb1.size)⟩
  obtain ⟨x, ex, hheap, hwp⟩ := wire_yes hok
  have e3 : wireM cs d = wireT (cleanC cs [d]) x := by rw [wireM, if_pos hok, ex]; rfl
  rw [e3]
  rw [ex] at HI
  have hfine := cell_fine hheap
  have h120 : (cleanC cs [d]).length ≤ 120 := (heap_refs hheap).1
  have hxf := word_fine (by omega) hwp
  generalize cleanC cs [d] = C at *
  clear hok ex e3 hheap hwp hn
  go_enter Tryz.func8, Tryz.ntmps8
  go_upto_region 5 with (first | (go_at_call 28; refine HI.mono ?_; rintro e w2 ⟨⟨v1, v2, rfl, hO1, hO2, hb2⟩, _⟩; (obtain ⟨a1, c1, rfl⟩ := (wi_cells hO1).slice); (obtain ⟨a2, c2, rfl⟩ := (wi_words hO2).slice)))
  have hw2 : Below w.heap.size w w2 := hb1.trans (hb2.mono hb1.size)
  have hC1 := wi_cells hO1
  obtain ⟨xb, xo, hxb, rfl, xr⟩ := (wi_words hO2).at 0 (by simp)
  have hP : ∀ w', Below w2.heap.size w2 w' → PowTab w' := fun w' h => hT.keep (wi_next hw2 h)
  have hC2 : CTab w2 := hC.below hw2 hC.pos
  have hG : 0 < w2.heap.size := hC2.pos
  obtain ⟨x0, x1⟩ := Wd.two xr
  have y0 : ∀ o, (w2.alloc o).cell? ⟨xb, xo, none⟩ = some (.int .i64 x.tag) := fun o => by
    rw [(((Below.refl _ _).alloc (Nat.le_refl _) o : Below w2.heap.size w2 _)).cell (p := ⟨xb, xo, none⟩) hxb]
    simpa using x0
  have y1 : ∀ o, (w2.alloc o).cell? ⟨xb, xo + 1, none⟩ = some (.int .i64 x.num) := fun o => by
    rw [(((Below.refl _ _).alloc (Nat.le_refl _) o : Below w2.heap.size w2 _)).cell (p := ⟨xb, xo + 1, none⟩) hxb]
    simpa using x1
  have hW0 := wib_new w2
  have hA0 : Below w2.heap.size w2 (w2.alloc (.cells #[.pointer none, .slice none 0 0] 66)) := (Below.refl _ _).alloc (Nat.le_refl _) _
  have hxl := word_len hxf.1
  have HX := impl_putWord x hxf _ w2.heap.size w2.heap.size [] hW0 (by simp) hA0.size (hP _ hA0)
  have HE := fun w' h => impl_endLine w' w2.heap.size w2.heap.size ([] ++ wordT x) h (by simp; omega)
  clear xr x0 x1 hb2 hO1 hO2 HI hb1 hb0 hxf
  go_upto_region 7 with (first
    | (go_at_call 29; refine HX.mono ?_; rintro e w3 ⟨rfl, hW3, hb3, _⟩; have hA3 := hA0.trans hb3)
    | (go_at_call 30; refine (HE _ hW3 hA3.size).mono ?_; rintro e w4 ⟨rfl, hW4, hb4, _⟩; have hA4 := hA3.trans hb4))
  rw [List.nil_append] at hW4
  clear HX HE hW3 hb3 hb4 hA3 y0 y1 hW0 hA0
  go_wp2_with fail
  go_loopg [27] C.length (fun g i wr => ∃ k : Nat, k + g = C.length ∧ i = .int .i64 (k : Int) ∧ Wib wr w2.heap.size w2.heap.size (wordT x ++ [10] ++ (C.take k).flatMap lineT) ∧ Below w2.heap.size w2 wr)
  case atStart => exact ⟨0, by omega, rfl, by simpa using hW4, hA4⟩
  case round =>
    clear hW4 hA4
    obtain ⟨k, hk, rfl, hWr, hAr⟩ := hrel
    by_cases hlt : k < C.length
    · obtain ⟨b, off, hS, rfl, hr⟩ := hC1.at k hlt
      obtain ⟨c0, c1, c2, c3, c4, c5⟩ := Ce.six (rw_same (hAr.block b hS) hr)
      have hki : (k : Int) < (C.length : Int) := by omega
      have hcf := hfine _ (List.getElem_mem hlt)
      have hTK := take_lines C k hlt
      have hpl : ((C.take k).flatMap lineT).length ≤ 60 * 120 := by
        have h1 := lines_len (C.take k) (fun y hy => hfine y (List.mem_of_mem_take hy))
        have h2 : (C.take k).length ≤ C.length := by rw [List.length_take]; omega
        omega
      generalize C[k] = c at c0 c1 c2 c3 c4 c5 hcf hTK
      clear hr
      have hll := line_len hcf
      have hl1 : (wordT x ++ [10] ++ (C.take k).flatMap lineT).length ≤ 8000 := by simp only [List.length_append, List.length_cons, List.length_nil]; omega
      have hB1 : Below wr.heap.size wr (wr.alloc (boxC c)) := (Below.refl _ _).alloc (Nat.le_refl _) _
      have hA1 : Below w2.heap.size w2 (wr.alloc (boxC c)) := wi_next hAr hB1
      have HPC := impl_putCell c hcf (wr.alloc (boxC c)) w2.heap.size w2.heap.size _ (wib_keep hWr hB1) (by omega) hA1.size (fun w' h => hP w' (hA1.trans h)) (hC2.below hA1 hG) hG
      have HEL := fun w' h hB => impl_endLine w' w2.heap.size w2.heap.size (wordT x ++ [10] ++ (C.take k).flatMap lineT ++ cellB c) h (by
        rw [List.length_append]
        have : (cellB c).length ≤ 60 := by simp only [lineT, List.length_append] at hll; omega
        omega) hB
      have hTK2 : wordT x ++ [10] ++ (C.take k).flatMap lineT ++ cellB c ++ [10] = wordT x ++ [10] ++ (C.take (k + 1)).flatMap lineT := by
        rw [hTK]
        simp [lineT]
      rw [hTK2] at HEL
      clear hTK hTK2 hll hl1 hpl hcf
      go_wp2_with (first
        | (go_at_call 31; refine HPC.mono ?_; rintro e w5 ⟨rfl, hW5, hb5, _⟩; have hA5 := hA1.trans hb5)
        | (go_at_call 30; refine (HEL _ hW5 hA5.size).mono ?_; rintro e w6 ⟨rfl, hW6, hb6, _⟩; have hA6 := hA5.trans hb6))
      go_roundg (C.length - (k + 1))
      case measure => omega
      case rel => exact ⟨k + 1, by omega, by go_num, hW6, hA6⟩
    · obtain rfl : k = C.length := by omega
      rw [List.take_length] at hWr
      have hki : ¬ (C.length : Int) < (C.length : Int) := by omega
      have HTx := wi_text wr w2.heap.size w2.heap.size _ hWr (by simp)
      go_wp2_with (first | (go_at_call 32; refine HTx.mono ?_; rintro e w7 ⟨rfl, hb7⟩))
      go_ret
      have HZ : wordT x ++ 10 :: C.flatMap lineT = wireT C x := by simp [wireT]
      exact ⟨congrArg (fun l => Ending.returned (.string (bx l))) HZ, hw2.trans ((hAr.trans hb7).mono hw2.size)⟩
end Go.Proofs.YthikfinliiaecaaGreatDoor

namespace Go.Proofs.YthikfinliiaecaaGreatDoor
open Go.RowKit

set_option maxRecDepth 100000 in
set_option maxHeartbeats 2000000 in
theorem spec_l12Word (d : Wd) (hd : In64 d.num ∧ (d.tag = 2 → d.num = 0 ∨ d.num = 1)) (w : World) :
    Calls Tryz.prog 58 #[.agg #[.int .i64 d.tag, .int .i64 d.num]] w fun r w' => r = .returned (.string (bx (wordT d))) ∧ Below w.heap.size w w' := by
  obtain ⟨t, n⟩ := d
  obtain ⟨hn, h2⟩ := hd
  have hn : In64 n := hn
  have h2 : t = 2 → n = 0 ∨ n = 1 := h2
  have hg := itoa_len n hn
  have hb : ∀ o, Below w.heap.size w (w.alloc o) := fun o => (Below.refl _ _).alloc (Nat.le_refl _) o
  have HI : ∀ w', Calls Tryz.prog 59 #[.int .i64 n] w' fun e w2 => e = .returned (.string (bx (Lib.itoa n))) ∧ Below w'.heap.size w' w2 := fun w' => dec_all n hn w'
  rcases (by omega : t = 1 ∨ t = 2 ∨ t = 3 ∨ t = 4 ∨ (t < 1 ∨ 4 < t)) with rfl | rfl | rfl | rfl | ht
  · rw [show wordT ⟨1, n⟩ = Lib.itoa n from rfl]
    go_enter Tryz.func58, Tryz.ntmps58
    go_wp2_with (first | (go_at_call 59; refine (HI _).mono ?_; rintro e w3 ⟨rfl, hb3⟩))
    go_ret
    exact ⟨rfl, wi_next (hb _) hb3⟩
  · rcases h2 rfl with rfl | rfl
    · go_enter Tryz.func58, Tryz.ntmps58
      go_wp2_with fail
      go_ret
      exact ⟨rfl, (hb _).alloc (by simp) _⟩
    · go_enter Tryz.func58, Tryz.ntmps58
      go_wp2_with fail
      go_ret
      exact ⟨rfl, (hb _).alloc (by simp) _⟩
  · rw [show wordT ⟨3, n⟩ = [112, 105, 100] ++ Lib.itoa n from rfl, ← pid_bytes]
    generalize ht1 : bx (Lib.itoa n) = t1 at *
    have z1 : t1.size ≤ 20 := by rw [← ht1, bx_size]; exact hg
    have q1 : ¬ 9223372036854775807 < 3 + t1.size := by omega
    clear ht1 z1
    go_enter Tryz.func58, Tryz.ntmps58
    go_wp2_with (first | (go_at_call 59; refine (HI _).mono ?_; rintro e w3 ⟨rfl, hb3⟩))
    go_ret
    exact ⟨rfl, wi_next (hb _) hb3⟩
  · rw [show wordT ⟨4, n⟩ = [97, 116] ++ Lib.itoa n from rfl, ← at_bytes]
    generalize ht1 : bx (Lib.itoa n) = t1 at *
    have z1 : t1.size ≤ 20 := by rw [← ht1, bx_size]; exact hg
    have q1 : ¬ 9223372036854775807 < 2 + t1.size := by omega
    clear ht1 z1
    go_enter Tryz.func58, Tryz.ntmps58
    go_wp2_with (first | (go_at_call 59; refine (HI _).mono ?_; rintro e w3 ⟨rfl, hb3⟩))
    go_ret
    exact ⟨rfl, wi_next (hb _) hb3⟩
  · have e0 : wordT ⟨t, n⟩ = [110, 105, 108] := by
      unfold wordT
      show (if t = 1 then _ else if t = 2 then _ else if t = 3 then _ else if t = 4 then _ else _) = _
      rw [if_neg (by omega), if_neg (by omega), if_neg (by omega), if_neg (by omega)]
    rw [e0]
    have b1 : (t == 1) = false := by simp; omega
    have b2 : (t == 2) = false := by simp; omega
    have b3 : (t == 3) = false := by simp; omega
    have b4 : (t == 4) = false := by simp; omega
    clear ht h2
    go_enter Tryz.func58, Tryz.ntmps58
    go_wp2_with fail
    go_ret
    exact ⟨rfl, hb _⟩

def kinds6 : Array Value := #[.string ⟨#[]⟩, .string ⟨#[112, 97, 105, 114]⟩, .string ⟨#[99, 111, 110, 115]⟩, .string ⟨#[101, 110, 118]⟩, .string ⟨#[102, 117, 110]⟩, .string ⟨#[114, 101, 99]⟩]
set_option maxHeartbeats 1000000 in
theorem spec_l12Kinds (w : World) : Calls Tryz.prog 52 #[] w fun r w' => r = .returned (.slice (some ⟨w.heap.size, 0, none⟩) 6 6) ∧ w' = w.alloc (.cells kinds6 9) := by
  go_enter Tryz.func52, Tryz.ntmps52
  go_wp2_with fail
  go_ret
  exact ⟨rfl, rfl⟩
theorem kinds_at {k : Nat} (h1 : 1 ≤ k) (h5 : k ≤ 5) : kinds6[k]? = some (.string (bx (kindB (k : Int)))) := by
  match k, h1, h5 with
  | 1, _, _ | 2, _, _ | 3, _, _ | 4, _, _ | 5, _, _ => rfl
end Go.Proofs.YthikfinliiaecaaGreatDoor

