/-
  A worklist: a cell that was copied is written anew. No program is named here.
-/
import Derived.Test.YthikfinliiaecaaGreatDoorFgAll3
namespace Go.Proofs.YthikfinliiaecaaGreatDoor
open Go.RowKit

/-- Values set one behind the other. -/
def setAll (xs : List Value) (o : Nat) : List Value → List Value
  | [] => xs
  | u :: us => setAll (xs.set o u) (o + 1) us
theorem ow_setCells {B g n s cap : Nat} {e : TypeId} : ∀ (us : List Value) (o : Nat) (w : World) (xs : List Value), w.ownsRow B e s (.slice (some ⟨g, 0, none⟩) n cap) n xs → (w.setCells g o us).ownsRow B e s (.slice (some ⟨g, 0, none⟩) n cap) n (setAll xs o us)
  | [], _, _, _, h => h
  | u :: us, o, w, xs, h => by rw [World.setCells, setAll]; exact ow_setCells us (o + 1) _ _ (ow_set h o u)
theorem setAll_append : ∀ (us : List Value) (a b : List Value) (o : Nat), a.length ≤ o → setAll (a ++ b) o us = a ++ setAll b (o - a.length) us
  | [], _, _, _, _ => rfl
  | u :: us, a, b, o, h => by
    rw [setAll, List.set_append_right _ _ h, setAll_append us a _ (o + 1) (by omega), setAll, show o + 1 - a.length = o - a.length + 1 by omega]
theorem setAll_front : ∀ (us : List Value) (pre xs rest : List Value), xs.length = us.length → setAll (pre ++ xs ++ rest) pre.length us = pre ++ us ++ rest
  | [], pre, xs, rest, h => by rw [List.length_eq_zero_iff.1 h]; rfl
  | u :: us, pre, [], rest, h => by simp at h
  | u :: us, pre, x :: xs, rest, h => by
    have h1 : (pre ++ (x :: xs) ++ rest).set pre.length u = (pre ++ [u]) ++ xs ++ rest := by
      rw [List.append_assoc, List.set_append_right _ _ (Nat.le_refl _), Nat.sub_self]
      simp
    rw [setAll, h1, show pre.length + 1 = (pre ++ [u]).length by simp, setAll_front us (pre ++ [u]) xs rest (by simpa using h)]
    simp
theorem flat_set {α : Type} {n : Nat} {f : α → List Value} (hf : ∀ x, (f x).length = n) (c : α) : ∀ (l : List α) (i : Nat), i < l.length → setAll (l.flatMap f) (i * n) (f c) = (l.set i c).flatMap f
  | [], i, h => by simp at h
  | x :: l, 0, _ => by
    rw [List.set_cons_zero, List.flatMap_cons, List.flatMap_cons, Nat.zero_mul]
    have := setAll_front (f c) [] (f x) (l.flatMap f) (by rw [hf, hf])
    simpa using this
  | x :: l, i + 1, h => by
    rw [List.set_cons_succ, List.flatMap_cons, List.flatMap_cons, setAll_append _ _ _ _ (by rw [hf, Nat.succ_mul]; omega), hf, show (i + 1) * n - n = i * n by rw [Nat.succ_mul]; omega, flat_set hf c l i (by simpa using h)]

/-- The cell that was copied to a place is written anew. -/
theorem WL.setAt {C I T : TypeId} {sh : Value → Value → Value → Array Value} {w : World} {B g tb n cap i : Nat} {fr : List Ce} {s : St} {c : Ce} {vf vm : Value} (h : WL C I T sh w B g fr s vf (.slice (some ⟨tb, 0, none⟩) n cap) vm) (hn : s.to.length = n) (hi : i < s.to.length) :
    WL C I T sh (w.setCells tb (i * 6) c.cells) B g fr ⟨s.to.set i c, s.mv⟩ vf (.slice (some ⟨tb, 0, none⟩) n cap) vm ∧ Moved w (w.setCells tb (i * 6) c.cells) g (.slice (some ⟨tb, 0, none⟩) n cap) (.slice (some ⟨tb, 0, none⟩) n cap) vm := by
  have htg : tb ≠ g := fun e => h.tg (by rw [e]; rfl)
  have hBt := (h.ownT.lt tb rfl).1
  have hk : ∀ k, k ≠ tb → (w.setCells tb (i * 6) c.cells).heap[k]? = w.heap[k]? := fun k hk => rw_heap_setCells tb _ _ w k hk
  have hb0 := rw_below_setCells (B := 0) (b := tb) (Nat.zero_le _) c.cells (i * 6) w (Below.refl _ _)
  have hmt : vm.ownBlock ≠ some tb := by
    rcases h.tm with e | e
    · cases e
    · exact fun e2 => e e2.symm
  refine ⟨⟨h.hB, by rw [hk g (Ne.symm htg)]; exact h.blk, h.frm.same fun k hlt => ⟨hk k (by omega), hlt⟩, ?_, ?_, h.tg, h.mg, h.tm⟩, ⟨hb0.os, hb0.tape, hb0.output, by rw [rw_size_setCells]; exact Nat.le_refl _, fun k _ _ h2 _ => hk k (fun e => h2 (by rw [e]; rfl)), fun _ _ h => h⟩⟩
  · have h1 := h.ownT
    rw [hn] at h1
    have h2 := ow_setCells c.cells (i * 6) w _ h1
    rw [flat_set (f := Ce.cells) (n := 6) (fun _ => rfl) c s.to i hi] at h2
    rw [List.length_set, hn]
    exact h2
  · obtain ⟨h1, ⟨h2, h3⟩ | ⟨b, cap', cur, rfl, hb, hh, r⟩⟩ := h.ownM
    · exact ⟨h1, Or.inl ⟨h2, h3⟩⟩
    · exact ⟨h1, Or.inr ⟨b, cap', cur, rfl, hb, by rw [hk b (fun e => hmt (by rw [e]; rfl))]; exact hh, r⟩⟩
/-- What was copied lies in a row. -/
theorem WL.rowT {C I T : TypeId} {sh : Value → Value → Value → Array Value} {w : World} {B g i : Nat} {fr : List Ce} {s : St} {vf vt vm : Value} (h : WL C I T sh w B g fr s vf vt vm) (hi : i < s.to.length) :
    ∃ tb cap, vt = .slice (some ⟨tb, 0, none⟩) s.to.length cap ∧ w.rangeAt tb (i * 6) (s.to[i]).cells ∧ w.there tb (i * 6) 6 ∧ tb < w.heap.size ∧ B ≤ tb ∧ tb ≠ g := by
  have ho := h.ownT
  have htg := h.tg
  rcases ho.2 with ⟨_, hn⟩ | ⟨tb, cap, cur, rfl, hb, hh, _⟩
  · omega
  · have hl := ow_flat_len (f := Ce.cells) (n := 6) (fun _ => rfl) s.to
    refine ⟨tb, cap, rfl, fun j u hj => ?_, fun j hj => ?_, (Array.getElem?_eq_some_iff.1 hh).1, hb, fun e => htg (by rw [e]; rfl)⟩
    · have := ho.cells (g := tb) rfl (i * 6 + j) u (ow_flat_get (f := Ce.cells) (n := 6) (fun _ => rfl) s.to i j s.to[i] u (List.getElem?_eq_getElem hi) hj)
      rw [Addr.add_mid] at this
      simpa using this
    · have := ow_cell ho (i * 6 + j) (by rw [hl]; omega)
      exact ⟨by rw [this.1]; rfl, this.2⟩
end Go.Proofs.YthikfinliiaecaaGreatDoor

