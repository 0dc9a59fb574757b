/-
  The program's copyWords: all to which words lead is copied.
  The reader of a code: words.
-/
import Derived.Test.YthikfinliiaecaaGreatDoorWlEach
import Derived.Test.YthikfinliiaecaaGreatDoorFgAll2
import Derived.Deep.LoopGhost
namespace Go.Proofs.YthikfinliiaecaaGreatDoor
open Go.RowKit

theorem own_moved {w w' : World} {B n s g : Nat} {e : TypeId} {v : Value} {xs : List Value} {vt vt' vm : Value} (h : w.ownsRow B e s v n xs) (hm : Moved w w' g vt vt' vm) (ha : ∀ b, v.ownBlock = some b → Apart b g vt vm) : w'.ownsRow B e s v n xs := by
  obtain ⟨h1, ⟨h2, h3⟩ | ⟨b, cap, cur, rfl, hb, hh, r⟩⟩ := h
  · exact ⟨h1, Or.inl ⟨h2, h3⟩⟩
  · obtain ⟨a1, a2, a3⟩ := ha b rfl
    exact ⟨h1, Or.inr ⟨b, cap, cur, rfl, hb, by rw [hm.block b (Array.getElem?_eq_some_iff.1 hh).1 a1 a2 a3]; exact hh, r⟩⟩
theorem Moved.grown {w w' w8 : World} {g : Nat} {vt vt' vm : Value} {row : Option Nat} (h : Moved w w' g vt vt' vm) (hG : w'.grownBy w8 row) (hr : ∀ k, row = some k → w.heap.size ≤ k) : Moved w w8 g vt vt' vm :=
  ⟨hG.os.trans h.os, hG.tape.trans h.tape, hG.output.trans h.output, Nat.le_trans h.size hG.size,
    fun k hk h1 h2 h3 => (hG.block k (Nat.lt_of_lt_of_le hk h.size) (fun e => by have := hr k e.symm; omega)).trans (h.block k hk h1 h2 h3), h.new⟩
theorem WL.grown {C I T : TypeId} {sh : Value → Value → Value → Array Value} {w w' : World} {B g : Nat} {fr : List Ce} {s : St} {vf vt vm v : Value} (h : WL C I T sh w B g fr s vf vt vm) (hG : w.grownBy w' v.ownBlock) (ha : ∀ b, v.ownBlock = some b → Apart b g vt vm ∧ B ≤ b) : WL C I T sh w' B g fr s vf vt vm :=
  h.same fun k hk hor => hG.block k hk fun e => by
    obtain ⟨⟨a1, a2, a3⟩, a4⟩ := ha k e.symm
    rcases hor with e2 | e2 | e2 | e2
    · exact a1 e2
    · omega
    · exact a2 e2
    · exact a3 e2
theorem WL.low {C I T : TypeId} {sh : Value → Value → Value → Array Value} {w : World} {B g : Nat} {fr : List Ce} {s : St} {vf vt vm : Value} (h : WL C I T sh w B g fr s vf vt vm) {b : Nat} (hb : b < B) : b < w.heap.size ∧ Apart b g vt vm := by
  have := h.hB
  have := h.lt
  refine ⟨by omega, by omega, fun e => ?_, fun e => ?_⟩
  · have := (h.ownT.lt b e.symm).1; omega
  · have := (h.ownM.lt b e.symm).1; omega
theorem Wd.len (d : Wd) : d.cells.length = 2 := rfl
theorem Wd.one (d : Wd) : ∀ u ∈ d.cells, u.oneCell' = true := fun u hu => by
  simp only [Wd.cells, List.mem_cons, List.not_mem_nil, or_false] at hu
  rcases hu with rfl | rfl <;> rfl
theorem wdInfo : (Tryz.prog.info? 26).map (fun i => (i.zero, i.size, i.bytes)) = some (some (.agg #[.int .i64 0, .int .i64 0]), 2, 16) := by kernel_rfl
/-- How copyWords ends. -/
def CopyR (b : Nat) (w w' : World) (B g : Nat) (fr : List Ce) (s : St) (l : List Wd) (vf vt vm : Value) (r : Ending) : Prop :=
  ∃ v vt', r = .returned v ∧ w'.ownsRow w.heap.size 26 2 v l.length (l.flatMap Wd.cells) ∧ (∀ x, v.ownBlock = some x → Apart x g vt' vm) ∧ WLi b w' B g fr s vf vt' vm ∧ Moved w w' g vt vt' vm
theorem words_take (fr : List Ce) (s : St) (ws : List Wd) (j : Nat) (h : j < ws.length) : wordsS fr s (ws.take (j + 1)) = moveS fr (wordsS fr s (ws.take j)) ws[j] ∧ wordsW fr s (ws.take (j + 1)) = wordsW fr s (ws.take j) ++ [moveW fr (wordsS fr s (ws.take j)) ws[j]] := by
  rw [List.take_succ_eq_append_getElem h]
  exact ⟨wordsS_snoc _ _ _ _, wordsW_snoc _ _ _ _⟩

set_option maxRecDepth 100000 in
set_option maxHeartbeats 4000000 in
theorem impl_copyWords (b : Nat) (fr : List Ce) (s : St) (ws : List Wd) (hws : ws.length ≤ 1048576) (hwr : ∀ d ∈ ws, refOk fr.length d) (hb1 : b + fr.length ≤ 1000) (hI : Inv fr b b s) (hfr : ∀ c ∈ fr, refOk fr.length c.a ∧ refOk fr.length c.b) (w : World) (B g : Nat) (vf vt vm vw : Value) (h : WLi b w B g fr s vf vt vm) (hvw : Words w (fun x => x < w.heap.size ∧ Apart x g vt vm) ws vw) :
    Calls Tryz.prog 36 #[.pointer (some ⟨g, 0, none⟩), vw] w fun r w' => CopyR b w w' B g fr (loopS fr (fr.length + 1) (wordsS fr s ws) b) (wordsW fr s ws) vf vt vm r := by
  have hmf : ∀ (fn : Fn) (first cap : Array Value) (w : World), (Instr.makeFunc fn first cap).run Tryz.prog w = .ok (.func fn first cap) w := fun _ _ _ _ => rfl
  obtain ⟨i0, hi0, hiz, his, hib⟩ := info_parts wdInfo
  obtain ⟨a, cap, rfl⟩ := hvw.slice
  have hgB : B ≤ w.heap.size := by have := h.hB; have := h.lt; omega
  have hb0 := wl_two w (.cells #[.pointer (some ⟨g, 0, none⟩)] 71) (.cells #[moveV w.heap.size] 96)
  have hW0 := h.keep hb0
  have hap := h.apart (Nat.le_refl w.heap.size)
  have haq := h.apart (Nat.le_succ w.heap.size)
  have hp0 : ((w.alloc (.cells #[.pointer (some ⟨g, 0, none⟩)] 71)).alloc (.cells #[moveV w.heap.size] 96)).cell? ⟨w.heap.size, 0, none⟩ = some (.pointer (some ⟨g, 0, none⟩)) := by simp
  have hq0 : ((w.alloc (.cells #[.pointer (some ⟨g, 0, none⟩)] 71)).alloc (.cells #[moveV w.heap.size] 96)).cell? ⟨w.heap.size + 1, 0, none⟩ = some (moveV w.heap.size) := by simp
  have hz0 : ((w.alloc (.cells #[.pointer (some ⟨g, 0, none⟩)] 71)).alloc (.cells #[moveV w.heap.size] 96)).heap.size = w.heap.size + 1 + 1 := by simp
  have hst : (store ⟨w.heap.size + 1, 0, none⟩ (.func (.func 67) #[] #[.pointer (some ⟨w.heap.size, 0, none⟩)])).run Tryz.prog ((w.alloc (.cells #[.pointer (some ⟨g, 0, none⟩)] 71)).alloc (.cells #[.nilFunc] 96)) = .ok () ((w.alloc (.cells #[.pointer (some ⟨g, 0, none⟩)] 71)).alloc (.cells #[moveV w.heap.size] 96)) := by
    rw [run_store _ _ _ _ _ rfl]
    simp
    rw [World.setCell_alloc_at _ _ _ _ _ (by simp)]
    rfl
  go_enter Tryz.func36, Tryz.ntmps36
  go_upto_region 3 with fail
  generalize hWW : (w.alloc (.cells #[.pointer (some ⟨g, 0, none⟩)] 71)).alloc (.cells #[moveV w.heap.size] 96) = W0 at *
  clear hWW
  go_wp2_with fail
  go_loopg [6, 12] ws.length (fun k v i wr => ∃ (j : Nat) (vt' : Value), j + k = ws.length ∧ i = .int .i64 j ∧ wr.ownsRow w.heap.size 26 2 v j ((wordsW fr s (ws.take j)).flatMap Wd.cells) ∧ (∀ x, v.ownBlock = some x → Apart x g vt' vm ∧ W0.heap.size ≤ x) ∧ Inv fr b b (wordsS fr s (ws.take j)) ∧ WLi b wr B g fr (wordsS fr s (ws.take j)) vf vt' vm ∧ Moved W0 wr g vt vt' vm)
  case atStart => exact ⟨0, vt, by omega, rfl, World.ownsRow_nil _ _ _ _, fun x hx => (by simp [Value.ownBlock] at hx), hI, hW0, Moved.refl⟩
  case round =>
    obtain ⟨j, vt', hjk, rfl, hO, hA, hI', hW, hM⟩ := hrel
    obtain ⟨kp, _⟩ := hM.cells (b := w.heap.size) (by omega) hap
    obtain ⟨kq, _⟩ := hM.cells (b := w.heap.size + 1) (by omega) haq
    have hp' := (kp 0).trans hp0
    have hq' := (kq 0).trans hq0
    have hap' := hM.apart (b := w.heap.size) (by omega) hap
    have haq' := hM.apart (b := w.heap.size + 1) (by omega) haq
    have hzr := hM.size
    have hl1 : w.heap.size < wr.heap.size := by omega
    have hl2 : w.heap.size + 1 < wr.heap.size := by omega
    clear kp kq
    by_cases hlt : j < ws.length
    · obtain ⟨vb, off, ⟨hvl, hva⟩, rfl, hr⟩ := hvw.at j hlt
      obtain ⟨q0, q1⟩ := Wd.two (rw_same ((hM.block vb (by omega) hva.1 hva.2.1 hva.2.2).trans (hb0.block vb hvl)) hr)
      obtain ⟨hS, hWw⟩ := words_take fr s ws j hlt
      have hle := hI'.le
      have hc := impl_move b fr (wordsS fr s (ws.take j)) ws[j] (hwr _ (List.getElem_mem hlt)) hI'.len (by omega) (wr.alloc (.cells #[.int .i64 ws[j].tag, .int .i64 ws[j].num] 26)) B g w.heap.size vf vt' vm (hW.keep (below_new wr _)) (by rw [(below_new wr _).cell (p := ⟨w.heap.size, 0, none⟩) (by dsimp only; omega)]; exact hp')
      have hI2 := hI'.move hfr (hwr _ (List.getElem_mem hlt))
      rw [← hS] at hc hI2
      have HW : Hid (wordsW fr s (ws.take (j + 1)) = wordsW fr s (ws.take j) ++ [moveW fr (wordsS fr s (ws.take j)) ws[j]]) := hWw
      clear hWw hr
      generalize moveW fr (wordsS fr s (ws.take j)) ws[j] = d2 at *
      have hji : (j : Int) < (ws.length : Int) := by omega
      go_wp2_with (first
        | (go_at_call 67; refine hc.mono ?_; rintro r w2 ⟨rfl, vt2, hW2, hM2⟩; have hM2' := (Moved.ofBelow (below_new wr (.cells #[.int .i64 ws[j].tag, .int .i64 ws[j].num] 26))).trans hM2; have hO2 := own_moved hO hM2' (fun x hx => (hA x hx).1); have hz2 := hM2'.size)
        | (at_builtin; refine wpList_append_lies _ rfl _ _ 33 rfl w.heap.size 26 i0 _ 2 16 Tryz.underlying33 hi0 hiz his hib rfl (by decide) _ j _ rfl (hO2.alloc _) ⟨w2.heap.size, 0, none⟩ 1 1 d2.cells rfl rfl (ow_cells_new w2 _ _) (Wd.one d2) (by omega) (by unfold maxLen; omega) (by omega) (by simp; omega) (w2.heap.size + 1) (by simp) ?_; intro t8 cap8 w8 hO8 hG8 hor8 hlt8))
      have hx2 : ∀ x, u6.ownBlock = some x → Apart x g vt2 vm ∧ W0.heap.size ≤ x := fun x hx => ⟨hM2'.apart (hO.lt x hx).2 (hA x hx).1, (hA x hx).2⟩
      have hWA := hW2.keep (below_new w2 (.cells #[.int .i64 d2.tag, .int .i64 d2.num] 26))
      have hW8 := hWA.grown hG8 (fun x hx => ⟨(hx2 x hx).1, by have := (hx2 x hx).2; omega⟩)
      have hM8 := ((hM.trans hM2').alloc (.cells #[.int .i64 d2.tag, .int .i64 d2.num] 26)).grown hG8 (fun k hk => (hA k hk).2)
      have hA8 : ∀ x, (Value.slice (some ⟨t8, 0, none⟩) (j + 1) cap8).ownBlock = some x → Apart x g vt2 vm ∧ W0.heap.size ≤ x := fun x hx => by
        obtain rfl : t8 = x := by simpa [Value.ownBlock] using hx
        rcases hor8 with e | e
        · exact hx2 t8 e
        · exact ⟨hWA.apart (by simp; omega), by have := hM.size; omega⟩
      go_roundg (ws.length - (j + 1))
      case measure => omega
      case rel => exact ⟨j + 1, vt2, by omega, by go_num, by rw [HW.out, List.flatMap_append]; simpa using hO8, hA8, hI2, hW8, hM8⟩
    · obtain rfl : j = ws.length := by omega
      rw [List.take_length] at hO hI' hW
      have he := impl_each b fr _ hb1 hI' hfr wr B g w.heap.size (w.heap.size + 1) vf vt' vm hW hp' hq' hap' haq'
      have hji : ¬ (ws.length : Int) < (ws.length : Int) := by omega
      go_wp2_with (go_at_call 69; refine he.mono ?_; rintro r w9 ⟨rfl, vt9, hW9, hM9⟩)
      go_ret
      refine ⟨_, vt9, rfl, ?_, ?_, hW9, Moved.pre hb0 (hM.trans hM9)⟩
      · rw [wordsW_length]; exact own_moved hO hM9 (fun x hx => (hA x hx).1)
      · exact fun x hx => hM9.apart (hO.lt x hx).2 (hA x hx).1
end Go.Proofs.YthikfinliiaecaaGreatDoor

namespace Go.Proofs.YthikfinliiaecaaGreatDoor
open Go.RowKit

/-- How words are drawn. -/
def WordsDrawn (w w' : World) (g P : Nat) (r : Ending) : Prop := ∃ ws v, r = .returned v ∧ ws.length ≤ 4 ∧ OwnR 2 Wd.cells 26 w' w.heap.size ws v ∧ Rd w' g (P + 20) ∧ w.grownBy w' (some g)
theorem rd_one2 (t z : Int) : ∀ u ∈ [Value.int .i64 t, .int .i64 z], u.oneCell' = true := fun u hu => by
  simp only [List.mem_cons, List.not_mem_nil, or_false] at hu
  rcases hu with rfl | rfl <;> rfl
theorem rd_but {w w' : World} {B n s g : Nat} {e : TypeId} {v : Value} {xs : List Value} (h : w.ownsRow B e s v n xs) (hg : w.grownBy w' (some g)) (hB : g < B) : w'.ownsRow B e s v n xs :=
  ow_but h hg (fun k hk => by cases hk; exact hB)
theorem rd_grow {w w' : World} {g P : Nat} {row : Option Nat} (h : Rd w g P) (hg : w.grownBy w' row) (hr : ∀ k, row = some k → g < k) : Rd w' g P :=
  h.same (fun k hk => hg.block k (by have := h.lt; omega) (fun e => by have := hr k e.symm; omega)) hg.size
theorem grow_on {w w1 w2 : World} {g : Nat} {row : Option Nat} (h : w.grownBy w1 (some g)) (hg : w1.grownBy w2 row) (hr : ∀ k, row = some k → w.heap.size ≤ k) : w.grownBy w2 (some g) :=
  ⟨hg.os.trans h.os, hg.tape.trans h.tape, hg.output.trans h.output, Nat.le_trans h.size hg.size, fun i hi hne => (hg.block i (Nat.lt_of_lt_of_le hi h.size) (fun e => by have := hr i e.symm; omega)).trans (h.block i hi hne)⟩

end Go.Proofs.YthikfinliiaecaaGreatDoor

