/-
  The law's own markExpr: every field of every part is marked, nothing else is turned.
-/
import Derived.Test.YtkkjpiikilhobaaGreatDoorNtText
namespace Go.Proofs.YtkkjpiikilhobaaGreatDoor
open Go.RowKit

/-- Nothing elder is turned but blocks from lo on and below hi. -/
structure Within (lo hi : Nat) (w w' : World) : Prop where
  os : w'.os = w.os
  tape : w'.tape = w.tape
  output : w'.output = w.output
  size : w.heap.size ≤ w'.heap.size
  block : ∀ k, k < w.heap.size → k < lo ∨ hi ≤ k → w'.heap[k]? = w.heap[k]?
theorem Within.refl (lo hi : Nat) (w : World) : Within lo hi w w := ⟨rfl, rfl, rfl, Nat.le_refl _, fun _ _ _ => rfl⟩
theorem Within.trans {lo hi : Nat} {a b c : World} (h : Within lo hi a b) (k : Within lo hi b c) : Within lo hi a c :=
  ⟨k.os.trans h.os, k.tape.trans h.tape, k.output.trans h.output, Nat.le_trans h.size k.size, fun i hi hb => (k.block i (Nat.lt_of_lt_of_le hi h.size) hb).trans (h.block i hi hb)⟩
theorem Within.below {lo hi : Nat} {a b : World} (h : Within lo hi a b) (hlo : lo ≤ a.heap.size) : Below lo a b := ⟨h.os, h.tape, h.output, h.size, fun k hk => h.block k (by omega) (Or.inl hk)⟩
theorem Within.of_below {lo hi : Nat} {a b : World} (h : Below a.heap.size a b) : Within lo hi a b := ⟨h.os, h.tape, h.output, h.size, fun k hk _ => h.block k hk⟩

/-- The cells c were written into the block nb from o on; nothing else that is elder is turned. -/
structure Wrote (nb o : Nat) (c : List Value) (w w' : World) : Prop where
  os : w'.os = w.os
  tape : w'.tape = w.tape
  output : w'.output = w.output
  size : w.heap.size ≤ w'.heap.size
  block : ∀ k, k < w.heap.size → k ≠ nb → w'.heap[k]? = w.heap[k]?
  cells : ∀ j, w'.cell? ⟨nb, j, none⟩ = if o ≤ j ∧ j < o + c.length then c[j - o]? else w.cell? ⟨nb, j, none⟩
  frozen : ∀ j, w'.frozen? ⟨nb, j, none⟩ = w.frozen? ⟨nb, j, none⟩

theorem Wrote.zero (nb o : Nat) (w : World) : Wrote nb o [] w w := ⟨rfl, rfl, rfl, Nat.le_refl _, fun _ _ _ => rfl, fun j => by rw [if_neg (by simp)], fun _ => rfl⟩
theorem Wrote.keep {nb o : Nat} {c : List Value} {w w1 w2 : World} (h : Wrote nb o c w w1) (hb : Below w1.heap.size w1 w2) (hnb : nb < w.heap.size) : Wrote nb o c w w2 := by
  have hz := h.size
  have hblk := hb.block nb (by omega)
  exact ⟨hb.os.trans h.os, hb.tape.trans h.tape, hb.output.trans h.output, Nat.le_trans h.size hb.size, fun k hk hn => (hb.block k (by omega)).trans (h.block k hk hn),
    fun j => by rw [World.cell?_of_block (w := w1) hblk, h.cells], fun j => by rw [World.frozen?_of_block (w := w1) hblk, h.frozen]⟩
theorem Wrote.store {nb o : Nat} {c : List Value} {w w1 : World} (h : Wrote nb o c w w1) (q : Nat) (hq : q = o + c.length) (hs : (w1.cell? ⟨nb, q, none⟩).isSome = true) (v : Value) : Wrote nb o (c ++ [v]) w (w1.setCell ⟨nb, q, none⟩ v) := by
  subst hq
  refine ⟨h.os, h.tape, h.output, ?_, fun k hk hn => by rw [Below.heap_setCell _ _ _ _ hn]; exact h.block k hk hn, fun j => ?_, fun j => ?_⟩
  · have := size_setCells nb [v] (o + c.length) w1
    rw [World.setCells, World.setCells] at this
    rw [this]; exact h.size
  · by_cases hj : j = o + c.length
    · subst hj
      rw [if_pos (by simp)]
      have h1 := World.cell?_setCells_in nb [v] (o + c.length) w1 (fun i hi => by obtain rfl : i = 0 := by simpa using hi
                                                                                  simpa using hs) 0 (by simp)
      simpa [World.setCells] using h1
    · have h1 := World.cell?_setCells_out nb [v] (o + c.length) w1 ⟨nb, j, Option.none⟩ (fun _ _ => by simp; omega)
      rw [World.setCells, World.setCells] at h1
      rw [h1, h.cells]
      by_cases h2 : o ≤ j ∧ j < o + c.length
      · rw [if_pos h2, if_pos (by simp; omega), List.getElem?_append_left (by omega)]
      · rw [if_neg h2, if_neg (by simp; omega)]
  · rw [World.frozen?_setCell]; exact h.frozen j

theorem five_is {e : Ex} {s : Value} {w : World} {nb o : Nat} (h0 : w.cell? ⟨nb, o, none⟩ = some (.int .i64 e.kind)) (h1 : w.cell? ⟨nb, o + 1, none⟩ = some (.string e.name)) (h2 : w.cell? ⟨nb, o + 2, none⟩ = some (.string e.tail)) (h3 : w.cell? ⟨nb, o + 3, none⟩ = some (.int .i64 e.num)) (h4 : w.cell? ⟨nb, o + 4, none⟩ = some s) : w.rangeAt nb o (e.cells s) := by
  intro j v hj
  match j, hj with
  | 0, hj => cases hj; exact h0
  | 1, hj => cases hj; exact h1
  | 2, hj => cases hj; exact h2
  | 3, hj => cases hj; exact h3
  | 4, hj => cases hj; exact h4

/-- One part's fields are marked, and then its parts are: the whole is marked at one more place. -/
theorem mark_step {w wr w4 w5 : World} {lo hi nb a b : Nat} {es : List Ex} {k i kk : Nat} {s v : Value} (hi' : i < es.length) (hkk : kk = k + 4 * cntAll (es.take i)) (hW : Within lo hi w wr) (hhi : hi ≤ w.heap.size)
    (hn0 : lo ≤ nb) (hna : nb < a) (hab : a ≤ b) (hbh : b ≤ hi) (hth : wr.there nb 0 (es.length * 5)) (hr : wr.rangeAt nb (i * 5) (es[i].cells s))
    (hnext : ∀ (w' : World) (e' : Ex), w'.there nb 0 (es.length * 5) → (∀ j, j < i * 5 ∨ i * 5 + 5 ≤ j → w'.cell? ⟨nb, j, none⟩ = wr.cell? ⟨nb, j, none⟩) →
        (∀ x, lo ≤ x → x < hi → x ≠ nb → x < a ∨ b ≤ x → w'.heap[x]? = wr.heap[x]?) → w'.rangeAt nb (i * 5) (e'.cells s) → Tree w' a b e'.kids s → Tree w' lo hi ((markTo es k i).set i e') v)
    (h4 : Wrote nb (i * 5) [.int .i64 kk, .string (markT (kk + 1)), .string (markT (kk + 2)), .int .i64 ((kk + 3 : Nat) : Int)] wr w4) (h5 : Within a b w4 w5) (ht5 : Tree w5 a b (markAll es[i].kids (kk + 4)) s) :
    Tree w5 lo hi (markTo es k (i + 1)) v ∧ Within lo hi w w5 := by
  have hz := hW.size
  have hz4 := h4.size
  have hnbl : nb < w4.heap.size := by omega
  have hb5 : w5.heap[nb]? = w4.heap[nb]? := h5.block nb hnbl (Or.inl hna)
  have hc : ∀ j, w5.cell? ⟨nb, j, none⟩ = if i * 5 ≤ j ∧ j < i * 5 + 4 then ([.int .i64 kk, .string (markT (kk + 1)), .string (markT (kk + 2)), .int .i64 ((kk + 3 : Nat) : Int)] : List Value)[j - i * 5]? else wr.cell? ⟨nb, j, none⟩ := fun j => by
    rw [World.cell?_of_block (w := w4) hb5]; exact h4.cells j
  constructor
  · have hm := hnext w5 (markM es[i] kk) ?_ ?_ ?_ ?_ ?_
    · rw [hkk, markTo_next es k i hi'] at hm; exact hm
    · intro j hj
      obtain ⟨q1, q2⟩ := hth j hj
      refine ⟨?_, ?_⟩
      · rw [hc]
        split
        · rename_i hh
          rw [List.getElem?_eq_getElem (by simp; omega)]; rfl
        · exact q1
      · rw [World.frozen?_of_block (w := w4) hb5]
        have := h4.frozen (0 + j)
        rw [this]; exact q2
    · intro j hj
      rw [hc, if_neg (by omega)]
    · intro x hx1 hx2 hx3 hx4
      rw [h5.block x (by omega) hx4, h4.block x (by omega) hx3]
    · rw [markM_eq]
      refine five_is ?_ ?_ ?_ ?_ ?_
      · rw [hc, if_pos (by omega)]; simp [Ex.kind]
      · rw [hc, if_pos (by omega)]; simp [Ex.name]
      · rw [hc, if_pos (by omega)]; simp [Ex.tail]
      · rw [hc, if_pos (by omega)]; simp [Ex.num]
      · rw [hc, if_neg (by omega)]; exact hr 4 _ rfl
    · rw [markM_eq]; exact ht5
  · refine hW.trans ⟨h5.os.trans h4.os, h5.tape.trans h4.tape, h5.output.trans h4.output, Nat.le_trans h4.size h5.size, fun x hx hb => ?_⟩
    rw [h5.block x (by omega) (by omega), h4.block x hx (by omega)]

/-- How markExprS ends. -/
def Marked (w w' : World) (lo hi : Nat) (es : List Ex) (k : Nat) (v : Value) (r : Ending) : Prop := r = .returned (.int .i64 ((k + 4 * cntAll es : Nat) : Int)) ∧ Tree w' lo hi (markAll es k) v ∧ Within lo hi w w'
/-- What markExprS does with parts. -/
def MarkS (es : List Ex) : Prop := ∀ (w : World) (v : Value) (lo hi k : Nat), Tree w lo hi es v → hi ≤ w.heap.size → 1 ≤ k → k + 4 * cntAll es ≤ 100000000 →
  Calls Tryz.prog 22 #[v, .int .i64 k] w fun r w' => Marked w w' lo hi es k v r

theorem cnt_room (es : List Ex) (i : Nat) (h : i < es.length) : cntAll (es.take i) + (1 + cntAll es[i].kids) ≤ cntAll es := by
  rw [← cntAll_take es i h]; exact cntAll_le es (i + 1)

set_option maxHeartbeats 1000000 in
theorem markS_walk (es : List Ex) (hlen : es.length ≤ 1048576) (ih : ∀ e ∈ es, MarkS e.kids) : MarkS es := by
  intro w v lo hi k hT hhi hk1 hkb
  obtain ⟨ad, cap, rfl⟩ := hT.slice
  go_enter Tryz.func22, Tryz.ntmps22
  go_wp2_with fail
  go_loopw [1, 5] (fun u i wr => ∃ (j kk : Nat), j ≤ es.length ∧ i = .int .i64 j ∧ u = .int .i64 kk ∧ Hid (kk = k + 4 * cntAll (es.take j)) ∧ Tree wr lo hi (markTo es k j) (.slice ad es.length cap) ∧ Within lo hi w wr) (fun _ i _ => es.length - (intOf i).toNat)
  case atStart => exact ⟨0, k, by omega, rfl, rfl, by show _ = _; simp [cntAll], by rw [markTo_zero]; exact hT, Within.refl _ _ _⟩
  case round =>
    obtain ⟨j, kk, hj, rfl, rfl, HK, hTr, hW⟩ := hrel
    by_cases hlt : j < es.length
    · have hl2 : j < (markTo es k j).length := by rw [markTo_length es k j hj]; exact hlt
      obtain ⟨nb, cap', s, a, b, hsl, hn0, hna, hab, hbh, hth, hr, hkt, hnext⟩ := hTr.at hl2
      rw [markTo_length es k j hj] at hsl hth hnext
      rw [markTo_get es k j hlt hl2] at hr hkt
      obtain ⟨rfl, rfl⟩ : ad = some ⟨nb, 0, none⟩ ∧ cap = cap' := by simpa using hsl
      have hroom := cnt_room es j hlt
      have hKK := HK.out
      have hkk1 : 1 ≤ kk := by omega
      have hkk2 : kk + 4 + 4 * cntAll es[j].kids ≤ 100000000 := by omega
      have hzW := hW.size
      have hnbw : nb < wr.heap.size := by omega
      have hT5 : wr.there nb (j * 5) 5 := there_part hth (by omega)
      have hcs : ∀ q, q < 5 → (wr.cell? ⟨nb, j * 5 + q, none⟩).isSome = true ∧ wr.frozen? ⟨nb, j * 5 + q, none⟩ = false := fun q hq => hT5 q hq
      obtain ⟨c0, c1, c2, c3, c4⟩ := Ex.five hr
      have f0 : wr.frozen? ⟨nb, j * 5, none⟩ = false := (hcs 0 (by omega)).2
      have f1 := (hcs 1 (by omega)).2
      have f2 := (hcs 2 (by omega)).2
      have f3 := (hcs 3 (by omega)).2
      have hw0 := Wrote.zero nb (j * 5) wr
      have hwA := hw0.store (j * 5) (by simp) (by rw [c0]; rfl) (.int .i64 kk)
      have hmt1 : ∀ (z : Int), z = (kk : Int) + 1 → ∀ w : World, Calls Tryz.prog 23 #[.int .i64 z] w fun r w' => r = .returned (.string (markT (kk + 1))) ∧ Below w.heap.size w w' := fun z hz w => by subst hz; simpa using law_markText (kk + 1) (by omega) (by omega) w
      have hmt2 : ∀ (z : Int), z = (kk : Int) + 2 → ∀ w : World, Calls Tryz.prog 23 #[.int .i64 z] w fun r w' => r = .returned (.string (markT (kk + 2))) ∧ Below w.heap.size w w' := fun z hz w => by subst hz; simpa using law_markText (kk + 2) (by omega) (by omega) w
      have hih : ∀ (z : Int), z = (kk : Int) + 4 → ∀ w4 : World, Tree w4 a b es[j].kids s → b ≤ w4.heap.size → Calls Tryz.prog 22 #[s, .int .i64 z] w4 fun r w' => Marked w4 w' a b es[j].kids (kk + 4) s r := fun z hz w4 ht hb => by
        subst hz; simpa using ih es[j] (List.getElem_mem hlt) w4 s a b (kk + 4) ht hb (by omega) hkk2
      have HN : Hid _ := hnext
      have HTH : Hid _ := hth
      have HR : Hid _ := hr
      have HKT : ∀ w4, Wrote nb (j * 5) [.int .i64 kk, .string (markT (kk + 1)), .string (markT (kk + 2)), .int .i64 ((kk + 3 : Nat) : Int)] wr w4 → Tree w4 a b es[j].kids s := fun w4 h4 => hkt.same fun x hx1 hx2 => h4.block x (by omega) (by omega)
      clear hKK hnext hsl hcs hTr hth hT5 hr hroom hkt ih
      go_wp2_with (first
        | (go_at_call 23; refine (hmt1 _ (by omega) _).mono ?_; rintro r w2 ⟨rfl, hb2⟩; have hwB := hwA.keep hb2 hnbw; have d1 : w2.cell? ⟨nb, j * 5 + 1, none⟩ = some (.string es[j].name) := (by rw [hwB.cells, if_neg (by simp), c1]); have g1 : w2.frozen? ⟨nb, j * 5 + 1, none⟩ = false := (by rw [hwB.frozen, f1]); have hwC := hwB.store (j * 5 + 1) rfl (by rw [d1]; rfl) (.string (markT (kk + 1))))
        | (go_at_call 23; refine (hmt2 _ (by omega) _).mono ?_; rintro r w3 ⟨rfl, hb3⟩; have hwD := hwC.keep hb3 hnbw; have d2 : w3.cell? ⟨nb, j * 5 + 2, none⟩ = some (.string es[j].tail) := (by rw [hwD.cells, if_neg (by simp), c2]); have g2 : w3.frozen? ⟨nb, j * 5 + 2, none⟩ = false := (by rw [hwD.frozen, f2]); have d3 : w3.cell? ⟨nb, j * 5 + 3, none⟩ = some (.int .i64 es[j].num) := (by rw [hwD.cells, if_neg (by simp), c3]); have g3 : w3.frozen? ⟨nb, j * 5 + 3, none⟩ = false := (by rw [hwD.frozen, f3]); have d4 : w3.cell? ⟨nb, j * 5 + 4, none⟩ = some s := (by rw [hwD.cells, if_neg (by simp), c4]); have hwE := hwD.store (j * 5 + 2) rfl (by rw [d2]; rfl) (.string (markT (kk + 2))); have hwF := hwE.store (j * 5 + 3) rfl (by rw [hwE.cells, if_neg (by simp), c3]; rfl) (.int .i64 ((kk + 3 : Nat) : Int)))
        | (go_at_call 22; refine (hih _ (by omega) _ (HKT _ hwF) (Nat.le_trans (by omega) hwF.size)).mono ?_; rintro r w5 ⟨rfl, ht5, hw5⟩; have hst := mark_step hlt HK.out hW hhi hn0 hna hab hbh HTH.out HR.out HN.out hwF hw5 ht5))
      go_roundw
      case rel => exact ⟨j + 1, kk + 4 + 4 * cntAll es[j].kids, by omega, by go_num, by go_num, by show _ = _; rw [cntAll_take es j hlt]; have := HK.out; omega, hst.1, hst.2⟩
      case measure => simp [intOf]; omega
    · obtain rfl : j = es.length := by omega
      have HE : Hid (kk = k + 4 * cntAll es) := by have := HK.out; rw [List.take_length] at this; exact this
      go_wp2_with fail
      go_ret
      exact ⟨by rw [← HE.out]; rfl, by rw [← markTo_end]; exact hTr, hW⟩
end Go.Proofs.YtkkjpiikilhobaaGreatDoor
