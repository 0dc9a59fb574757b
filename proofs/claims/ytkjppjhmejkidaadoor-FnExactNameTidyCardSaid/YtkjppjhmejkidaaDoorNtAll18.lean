/-
  The law's own markText: the mark of a number.
  The law's own markExpr: every field of every part is marked, nothing else is turned.
  The law's own markExpr.
  The law's own heldExpr: what was marked is found so.
-/
import Derived.Test.YtkjppjhmejkidaaDoorNtAll17
import Derived.Test.YtkjppjhmejkidaaDoorNtAll8
import Derived.Test.YtkjppjhmejkidaaDoorNtAll7
import Derived.Test.YtkjppjhmejkidaaDoorNtAll2
import Derived.Deep.RegionHeld3
namespace Go.Proofs.YtkjppjhmejkidaaDoor
open Go.RowKit

theorem mtx_step (k : Nat) (out : ByteArray) (h : k ≠ 0) : mtx k out = mtx (k / 10) (⟨#[UInt8.ofNat (48 + k % 10)]⟩ ++ out) := by
  rw [mtx, if_neg h]
theorem mtx_zero (out : ByteArray) : mtx 0 out = out := by rw [mtx, if_pos rfl]
theorem pow_lt_size {k n : Nat} (hk : 1 ≤ k) (h : k * 10 ^ n < 10000000000) : n < 10 := by
  apply Decidable.byContradiction
  intro hn
  have h1 : 10 ^ 10 ≤ 10 ^ n := Nat.pow_le_pow_right (by omega) (by omega)
  have h2 : 1 * 10 ^ n ≤ k * 10 ^ n := Nat.mul_le_mul_right _ hk
  omega
theorem pow_next {k n : Nat} (h : k * 10 ^ n < 10000000000) : k / 10 * 10 ^ (1 + n) < 10000000000 := by
  have h1 : k / 10 * 10 ≤ k := Nat.div_mul_le_self k 10
  have h2 : k / 10 * 10 * 10 ^ n ≤ k * 10 ^ n := Nat.mul_le_mul_right _ h1
  rw [Nat.pow_add, Nat.pow_one, ← Nat.mul_assoc]
  omega

set_option maxRecDepth 100000 in
set_option maxHeartbeats 400000 in
theorem law_markText (n : Nat) (h1 : 1 ≤ n) (hn : n < 1000000000) (w : World) : Calls Tryd.prog 37 #[.int .i64 n] w fun r w' => r = .returned (.string (markT n)) ∧ Below w.heap.size w w' := by
  go_enter Tryd.func37, Tryd.ntmps37
  go_wp2_with fail
  go_loopw [0, 3] (fun i u wr => ∃ (k : Nat) (o : ByteArray), k ≤ n ∧ i = .int .i64 k ∧ u = .string o ∧ o.size < 11 ∧ Hid (k * 10 ^ o.size < 10000000000) ∧ Hid (mtx n ⟨#[]⟩ = mtx k o) ∧ Below w.heap.size w wr) (fun i _ _ => (intOf i).toNat)
  case atStart => exact ⟨n, ⟨#[]⟩, Nat.le_refl _, rfl, rfl, by simp [ByteArray.size], by show _ < _; simp [ByteArray.size]; omega, rfl, Below.refl _ _⟩
  case round =>
    obtain ⟨k, o, hk, rfl, rfl, ho, HP, HM, hB⟩ := hrel
    by_cases hz : k = 0
    · subst hz
      have HE : Hid (markT n = ⟨#[109]⟩ ++ o) := by show _ = _; rw [markT, HM.out, mtx_zero]
      go_wp2_with fail
      go_ret
      exact ⟨by rw [HE.out]; rfl, hB⟩
    · obtain ⟨m, hm⟩ : ∃ m, m = k / 10 := ⟨_, rfl⟩
      obtain ⟨q, hq⟩ : ∃ q, q = k % 10 := ⟨_, rfl⟩
      obtain ⟨c, hc⟩ : ∃ c : UInt8, c = UInt8.ofNat (48 + q) := ⟨_, rfl⟩
      have hlt := pow_lt_size (by omega) HP.out
      have HP2 : Hid (m * 10 ^ (1 + o.size) < 10000000000) := by rw [hm]; exact pow_next HP.out
      have HM2 : Hid (mtx n ⟨#[]⟩ = mtx m (⟨#[c]⟩ ++ o)) := by show _ = _; rw [HM.out, mtx_step k o hz, hm, hc, hq]
      have hq9 : q < 10 := by omega
      have hmk : m < k := by omega
      have hwr : IntKind.i64.wrap ((k : Int) / 10) = (m : Int) := by
        rw [show (k : Int) / 10 = (m : Int) by omega, IntKind.wrap_i64]; omega
      have hwd : (k : Int) / 10 = (m : Int) := by omega
      have hwq : (k : Int) % 10 = (q : Int) := by omega
      have hzc : (48 : Int) + q = (c.toNat : Int) := by rw [hc]; simp; omega
      have hcv := conv_one wr c (48 + (q : Int)) wr.heap.size hzc rfl
      have hcv1 := conv_one wr c ((c.toNat : Int)) wr.heap.size rfl rfl
      clear hm hq hc
      go_wp2_with fail
      go_roundw
      case rel => exact ⟨m, ⟨#[c]⟩ ++ o, by omega, by go_num, rfl, by rw [ByteArray.size_append]; show 1 + o.size < 11; omega, by rw [ByteArray.size_append]; exact HP2.out, HM2, hB.alloc hB.size _⟩
      case measure => simp [intOf]; omega
end Go.Proofs.YtkjppjhmejkidaaDoor

namespace Go.Proofs.YtkjppjhmejkidaaDoor
open Go.RowKit

/-- Nothing elder is turned but blocks from lo on and below hi. -/
structure Within (lo hi : Nat) (w w' : World) : Prop where
  os : w'.os = w.os
  tape : w'.tape = w.tape
  output : w'.output = w.output
  size : w.heap.size ≤ w'.heap.size
  block : ∀ k, k < w.heap.size → k < lo ∨ hi ≤ k → w'.heap[k]? = w.heap[k]?
theorem Within.refl (lo hi : Nat) (w : World) : Within lo hi w w := ⟨rfl, rfl, rfl, Nat.le_refl _, fun _ _ _ => rfl⟩
theorem Within.trans {lo hi : Nat} {a b c : World} (h : Within lo hi a b) (k : Within lo hi b c) : Within lo hi a c :=
  ⟨k.os.trans h.os, k.tape.trans h.tape, k.output.trans h.output, Nat.le_trans h.size k.size, fun i hi hb => (k.block i (Nat.lt_of_lt_of_le hi h.size) hb).trans (h.block i hi hb)⟩
theorem Within.below {lo hi : Nat} {a b : World} (h : Within lo hi a b) (hlo : lo ≤ a.heap.size) : Below lo a b := ⟨h.os, h.tape, h.output, h.size, fun k hk => h.block k (by omega) (Or.inl hk)⟩
theorem Within.of_below {lo hi : Nat} {a b : World} (h : Below a.heap.size a b) : Within lo hi a b := ⟨h.os, h.tape, h.output, h.size, fun k hk _ => h.block k hk⟩

/-- The cells c were written into the block nb from o on; nothing else that is elder is turned. -/
structure Wrote (nb o : Nat) (c : List Value) (w w' : World) : Prop where
  os : w'.os = w.os
  tape : w'.tape = w.tape
  output : w'.output = w.output
  size : w.heap.size ≤ w'.heap.size
  block : ∀ k, k < w.heap.size → k ≠ nb → w'.heap[k]? = w.heap[k]?
  cells : ∀ j, w'.cell? ⟨nb, j, none⟩ = if o ≤ j ∧ j < o + c.length then c[j - o]? else w.cell? ⟨nb, j, none⟩
  frozen : ∀ j, w'.frozen? ⟨nb, j, none⟩ = w.frozen? ⟨nb, j, none⟩

theorem Wrote.zero (nb o : Nat) (w : World) : Wrote nb o [] w w := ⟨rfl, rfl, rfl, Nat.le_refl _, fun _ _ _ => rfl, fun j => by rw [if_neg (by simp)], fun _ => rfl⟩
theorem Wrote.keep {nb o : Nat} {c : List Value} {w w1 w2 : World} (h : Wrote nb o c w w1) (hb : Below w1.heap.size w1 w2) (hnb : nb < w.heap.size) : Wrote nb o c w w2 := by
  have hz := h.size
  have hblk := hb.block nb (by omega)
  exact ⟨hb.os.trans h.os, hb.tape.trans h.tape, hb.output.trans h.output, Nat.le_trans h.size hb.size, fun k hk hn => (hb.block k (by omega)).trans (h.block k hk hn),
    fun j => by rw [World.cell?_of_block (w := w1) hblk, h.cells], fun j => by rw [World.frozen?_of_block (w := w1) hblk, h.frozen]⟩
theorem Wrote.store {nb o : Nat} {c : List Value} {w w1 : World} (h : Wrote nb o c w w1) (q : Nat) (hq : q = o + c.length) (hs : (w1.cell? ⟨nb, q, none⟩).isSome = true) (v : Value) : Wrote nb o (c ++ [v]) w (w1.setCell ⟨nb, q, none⟩ v) := by
  subst hq
  refine ⟨h.os, h.tape, h.output, ?_, fun k hk hn => by rw [Below.heap_setCell _ _ _ _ hn]; exact h.block k hk hn, fun j => ?_, fun j => ?_⟩
  · have := size_setCells nb [v] (o + c.length) w1
    rw [World.setCells, World.setCells] at this
    rw [this]; exact h.size
  · by_cases hj : j = o + c.length
    · subst hj
      rw [if_pos (by simp)]
      have h1 := World.cell?_setCells_in nb [v] (o + c.length) w1 (fun i hi => by obtain rfl : i = 0 := by simpa using hi
                                                                                  simpa using hs) 0 (by simp)
      simpa [World.setCells] using h1
    · have h1 := World.cell?_setCells_out nb [v] (o + c.length) w1 ⟨nb, j, Option.none⟩ (fun _ _ => by simp; omega)
      rw [World.setCells, World.setCells] at h1
      rw [h1, h.cells]
      by_cases h2 : o ≤ j ∧ j < o + c.length
      · rw [if_pos h2, if_pos (by simp; omega), List.getElem?_append_left (by omega)]
      · rw [if_neg h2, if_neg (by simp; omega)]
  · rw [World.frozen?_setCell]; exact h.frozen j

theorem five_is {e : Ex} {s : Value} {w : World} {nb o : Nat} (h0 : w.cell? ⟨nb, o, none⟩ = some (.int .i64 e.kind)) (h1 : w.cell? ⟨nb, o + 1, none⟩ = some (.string e.name)) (h2 : w.cell? ⟨nb, o + 2, none⟩ = some (.string e.tail)) (h3 : w.cell? ⟨nb, o + 3, none⟩ = some (.int .i64 e.num)) (h4 : w.cell? ⟨nb, o + 4, none⟩ = some s) : w.rangeAt nb o (e.cells s) := by
  intro j v hj
  match j, hj with
  | 0, hj => cases hj; exact h0
  | 1, hj => cases hj; exact h1
  | 2, hj => cases hj; exact h2
  | 3, hj => cases hj; exact h3
  | 4, hj => cases hj; exact h4

/-- One part's fields are marked, and then its parts are: the whole is marked at one more place. -/
theorem mark_step {w wr w4 w5 : World} {lo hi nb a b : Nat} {es : List Ex} {k i kk : Nat} {s v : Value} (hi' : i < es.length) (hkk : kk = k + 4 * cntAll (es.take i)) (hW : Within lo hi w wr) (hhi : hi ≤ w.heap.size)
    (hn0 : lo ≤ nb) (hna : nb < a) (hab : a ≤ b) (hbh : b ≤ hi) (hth : wr.there nb 0 (es.length * 5)) (hr : wr.rangeAt nb (i * 5) (es[i].cells s))
    (hnext : ∀ (w' : World) (e' : Ex), w'.there nb 0 (es.length * 5) → (∀ j, j < i * 5 ∨ i * 5 + 5 ≤ j → w'.cell? ⟨nb, j, none⟩ = wr.cell? ⟨nb, j, none⟩) →
        (∀ x, lo ≤ x → x < hi → x ≠ nb → x < a ∨ b ≤ x → w'.heap[x]? = wr.heap[x]?) → w'.rangeAt nb (i * 5) (e'.cells s) → Tree w' a b e'.kids s → Tree w' lo hi ((markTo es k i).set i e') v)
    (h4 : Wrote nb (i * 5) [.int .i64 kk, .string (markT (kk + 1)), .string (markT (kk + 2)), .int .i64 ((kk + 3 : Nat) : Int)] wr w4) (h5 : Within a b w4 w5) (ht5 : Tree w5 a b (markAll es[i].kids (kk + 4)) s) :
    Tree w5 lo hi (markTo es k (i + 1)) v ∧ Within lo hi w w5 := by
  have hz := hW.size
  have hz4 := h4.size
  have hnbl : nb < w4.heap.size := by omega
  have hb5 : w5.heap[nb]? = w4.heap[nb]? := h5.block nb hnbl (Or.inl hna)
  have hc : ∀ j, w5.cell? ⟨nb, j, none⟩ = if i * 5 ≤ j ∧ j < i * 5 + 4 then ([.int .i64 kk, .string (markT (kk + 1)), .string (markT (kk + 2)), .int .i64 ((kk + 3 : Nat) : Int)] : List Value)[j - i * 5]? else wr.cell? ⟨nb, j, none⟩ := fun j => by
    rw [World.cell?_of_block (w := w4) hb5]; exact h4.cells j
  constructor
  · have hm := hnext w5 (markM es[i] kk) ?_ ?_ ?_ ?_ ?_
    · rw [hkk, markTo_next es k i hi'] at hm; exact hm
    · intro j hj
      obtain ⟨q1, q2⟩ := hth j hj
      refine ⟨?_, ?_⟩
      · rw [hc]
        split
        · rename_i hh
          rw [List.getElem?_eq_getElem (by simp; omega)]; rfl
        · exact q1
      · rw [World.frozen?_of_block (w := w4) hb5]
        have := h4.frozen (0 + j)
        rw [this]; exact q2
    · intro j hj
      rw [hc, if_neg (by omega)]
    · intro x hx1 hx2 hx3 hx4
      rw [h5.block x (by omega) hx4, h4.block x (by omega) hx3]
    · rw [markM_eq]
      refine five_is ?_ ?_ ?_ ?_ ?_
      · rw [hc, if_pos (by omega)]; simp [Ex.kind]
      · rw [hc, if_pos (by omega)]; simp [Ex.name]
      · rw [hc, if_pos (by omega)]; simp [Ex.tail]
      · rw [hc, if_pos (by omega)]; simp [Ex.num]
      · rw [hc, if_neg (by omega)]; exact hr 4 _ rfl
    · rw [markM_eq]; exact ht5
  · refine hW.trans ⟨h5.os.trans h4.os, h5.tape.trans h4.tape, h5.output.trans h4.output, Nat.le_trans h4.size h5.size, fun x hx hb => ?_⟩
    rw [h5.block x (by omega) (by omega), h4.block x hx (by omega)]

/-- How markExprS ends. -/
def Marked (w w' : World) (lo hi : Nat) (es : List Ex) (k : Nat) (v : Value) (r : Ending) : Prop := r = .returned (.int .i64 ((k + 4 * cntAll es : Nat) : Int)) ∧ Tree w' lo hi (markAll es k) v ∧ Within lo hi w w'
/-- What markExprS does with parts. -/
def MarkS (es : List Ex) : Prop := ∀ (w : World) (v : Value) (lo hi k : Nat), Tree w lo hi es v → hi ≤ w.heap.size → 1 ≤ k → k + 4 * cntAll es ≤ 100000000 →
  Calls Tryd.prog 21 #[v, .int .i64 k] w fun r w' => Marked w w' lo hi es k v r

theorem cnt_room (es : List Ex) (i : Nat) (h : i < es.length) : cntAll (es.take i) + (1 + cntAll es[i].kids) ≤ cntAll es := by
  rw [← cntAll_take es i h]; exact cntAll_le es (i + 1)

set_option maxHeartbeats 1000000 in
theorem markS_walk (es : List Ex) (hlen : es.length ≤ 1048576) (ih : ∀ e ∈ es, MarkS e.kids) : MarkS es := by
  intro w v lo hi k hT hhi hk1 hkb
  obtain ⟨ad, cap, rfl⟩ := hT.slice
  go_enter Tryd.func21, Tryd.ntmps21
  go_wp2_with fail
  go_loopw [1, 5] (fun u i wr => ∃ (j kk : Nat), j ≤ es.length ∧ i = .int .i64 j ∧ u = .int .i64 kk ∧ Hid (kk = k + 4 * cntAll (es.take j)) ∧ Tree wr lo hi (markTo es k j) (.slice ad es.length cap) ∧ Within lo hi w wr) (fun _ i _ => es.length - (intOf i).toNat)
  case atStart => exact ⟨0, k, by omega, rfl, rfl, by show _ = _; simp [cntAll], by rw [markTo_zero]; exact hT, Within.refl _ _ _⟩
  case round =>
    obtain ⟨j, kk, hj, rfl, rfl, HK, hTr, hW⟩ := hrel
    by_cases hlt : j < es.length
    · have hl2 : j < (markTo es k j).length := by rw [markTo_length es k j hj]; exact hlt
      obtain ⟨nb, cap', s, a, b, hsl, hn0, hna, hab, hbh, hth, hr, hkt, hnext⟩ := hTr.at hl2
      rw [markTo_length es k j hj] at hsl hth hnext
      rw [markTo_get es k j hlt hl2] at hr hkt
      obtain ⟨rfl, rfl⟩ : ad = some ⟨nb, 0, none⟩ ∧ cap = cap' := by simpa using hsl
      have hroom := cnt_room es j hlt
      have hKK := HK.out
      have hkk1 : 1 ≤ kk := by omega
      have hkk2 : kk + 4 + 4 * cntAll es[j].kids ≤ 100000000 := by omega
      have hzW := hW.size
      have hnbw : nb < wr.heap.size := by omega
      have hT5 : wr.there nb (j * 5) 5 := there_part hth (by omega)
      have hcs : ∀ q, q < 5 → (wr.cell? ⟨nb, j * 5 + q, none⟩).isSome = true ∧ wr.frozen? ⟨nb, j * 5 + q, none⟩ = false := fun q hq => hT5 q hq
      obtain ⟨c0, c1, c2, c3, c4⟩ := Ex.five hr
      have f0 : wr.frozen? ⟨nb, j * 5, none⟩ = false := (hcs 0 (by omega)).2
      have f1 := (hcs 1 (by omega)).2
      have f2 := (hcs 2 (by omega)).2
      have f3 := (hcs 3 (by omega)).2
      have hw0 := Wrote.zero nb (j * 5) wr
      have hwA := hw0.store (j * 5) (by simp) (by rw [c0]; rfl) (.int .i64 kk)
      have hmt1 : ∀ (z : Int), z = (kk : Int) + 1 → ∀ w : World, Calls Tryd.prog 37 #[.int .i64 z] w fun r w' => r = .returned (.string (markT (kk + 1))) ∧ Below w.heap.size w w' := fun z hz w => by subst hz; simpa using law_markText (kk + 1) (by omega) (by omega) w
      have hmt2 : ∀ (z : Int), z = (kk : Int) + 2 → ∀ w : World, Calls Tryd.prog 37 #[.int .i64 z] w fun r w' => r = .returned (.string (markT (kk + 2))) ∧ Below w.heap.size w w' := fun z hz w => by subst hz; simpa using law_markText (kk + 2) (by omega) (by omega) w
      have hih : ∀ (z : Int), z = (kk : Int) + 4 → ∀ w4 : World, Tree w4 a b es[j].kids s → b ≤ w4.heap.size → Calls Tryd.prog 21 #[s, .int .i64 z] w4 fun r w' => Marked w4 w' a b es[j].kids (kk + 4) s r := fun z hz w4 ht hb => by
        subst hz; simpa using ih es[j] (List.getElem_mem hlt) w4 s a b (kk + 4) ht hb (by omega) hkk2
      have HN : Hid _ := hnext
      have HTH : Hid _ := hth
      have HR : Hid _ := hr
      have HKT : ∀ w4, Wrote nb (j * 5) [.int .i64 kk, .string (markT (kk + 1)), .string (markT (kk + 2)), .int .i64 ((kk + 3 : Nat) : Int)] wr w4 → Tree w4 a b es[j].kids s := fun w4 h4 => hkt.same fun x hx1 hx2 => h4.block x (by omega) (by omega)
      clear hKK hnext hsl hcs hTr hth hT5 hr hroom hkt ih
      go_wp2_with (first
        | (go_at_call 37; refine (hmt1 _ (by omega) _).mono ?_; rintro r w2 ⟨rfl, hb2⟩; have hwB := hwA.keep hb2 hnbw; have d1 : w2.cell? ⟨nb, j * 5 + 1, none⟩ = some (.string es[j].name) := (by rw [hwB.cells, if_neg (by simp), c1]); have g1 : w2.frozen? ⟨nb, j * 5 + 1, none⟩ = false := (by rw [hwB.frozen, f1]); have hwC := hwB.store (j * 5 + 1) rfl (by rw [d1]; rfl) (.string (markT (kk + 1))))
        | (go_at_call 37; refine (hmt2 _ (by omega) _).mono ?_; rintro r w3 ⟨rfl, hb3⟩; have hwD := hwC.keep hb3 hnbw; have d2 : w3.cell? ⟨nb, j * 5 + 2, none⟩ = some (.string es[j].tail) := (by rw [hwD.cells, if_neg (by simp), c2]); have g2 : w3.frozen? ⟨nb, j * 5 + 2, none⟩ = false := (by rw [hwD.frozen, f2]); have d3 : w3.cell? ⟨nb, j * 5 + 3, none⟩ = some (.int .i64 es[j].num) := (by rw [hwD.cells, if_neg (by simp), c3]); have g3 : w3.frozen? ⟨nb, j * 5 + 3, none⟩ = false := (by rw [hwD.frozen, f3]); have d4 : w3.cell? ⟨nb, j * 5 + 4, none⟩ = some s := (by rw [hwD.cells, if_neg (by simp), c4]); have hwE := hwD.store (j * 5 + 2) rfl (by rw [d2]; rfl) (.string (markT (kk + 2))); have hwF := hwE.store (j * 5 + 3) rfl (by rw [hwE.cells, if_neg (by simp), c3]; rfl) (.int .i64 ((kk + 3 : Nat) : Int)))
        | (go_at_call 21; refine (hih _ (by omega) _ (HKT _ hwF) (Nat.le_trans (by omega) hwF.size)).mono ?_; rintro r w5 ⟨rfl, ht5, hw5⟩; have hst := mark_step hlt HK.out hW hhi hn0 hna hab hbh HTH.out HR.out HN.out hwF hw5 ht5))
      go_roundw
      case rel => exact ⟨j + 1, kk + 4 + 4 * cntAll es[j].kids, by omega, by go_num, by go_num, by show _ = _; rw [cntAll_take es j hlt]; have := HK.out; omega, hst.1, hst.2⟩
      case measure => simp [intOf]; omega
    · obtain rfl : j = es.length := by omega
      have HE : Hid (kk = k + 4 * cntAll es) := by have := HK.out; rw [List.take_length] at this; exact this
      go_wp2_with fail
      go_ret
      exact ⟨by rw [← HE.out]; rfl, by rw [← markTo_end]; exact hTr, hW⟩
end Go.Proofs.YtkjppjhmejkidaaDoor

namespace Go.Proofs.YtkjppjhmejkidaaDoor
open Go.RowKit

theorem markS (e : Ex) : e.Wee → MarkS e.kids := by
  induction e using Ex.ind with
  | h e ih =>
    intro hf
    obtain ⟨_, hk, hx⟩ := hf
    exact markS_walk e.kids hk (fun x hx' => ih x hx' (hx x hx'))

set_option maxHeartbeats 400000 in
theorem law_markExpr (e : Ex) (hf : e.Wee) (w : World) (s : Value) (lo hi k : Nat) (hT : Tree w lo hi e.kids s) (hhi : hi ≤ w.heap.size) (hk1 : 1 ≤ k) (hkb : k + 4 * cntAll e.kids ≤ 100000000) :
    Calls Tryd.prog 9 #[e.val s, .int .i64 k] w fun r w' => Marked w w' lo hi e.kids k s r := by
  have hS := markS e hf
  have hT' : ∀ o, Tree (w.alloc o) lo hi e.kids s := fun o => hT.keep ((Below.refl w.heap.size w).alloc (Nat.le_refl _) o) hhi
  have hz' : ∀ o : Obj, hi ≤ (w.alloc o).heap.size := fun o => by simp; omega
  have hW : ∀ o w', Within lo hi (w.alloc o) w' → Within lo hi w w' := fun o w' h => (Within.of_below ((Below.refl w.heap.size w).alloc (Nat.le_refl _) o)).trans h
  go_enter Tryd.func9, Tryd.ntmps9
  go_wp2_with (go_at_call 21; refine (hS _ _ lo hi k (hT' _) (hz' _) hk1 hkb).mono ?_; rintro r w2 ⟨rfl, ht2, hw2⟩)
  go_ret
  exact ⟨rfl, ht2, hW _ _ hw2⟩
end Go.Proofs.YtkjppjhmejkidaaDoor

namespace Go.Proofs.YtkjppjhmejkidaaDoor
open Go.RowKit

/-- What heldExprS does with parts that are marked. -/
def HeldS (es : List Ex) : Prop := ∀ (w : World) (v : Value) (k : Nat), Lies w (· < w.heap.size) (markAll es k) v → 1 ≤ k → k + 4 * cntAll es ≤ 100000000 →
  Calls Tryd.prog 22 #[v, .int .i64 k] w fun r w' => r = .returned (.int .i64 ((k + 4 * cntAll es : Nat) : Int)) ∧ Below w.heap.size w w'

set_option maxHeartbeats 1000000 in
theorem heldS_walk (es : List Ex) (hlen : es.length ≤ 1048576) (ih : ∀ e ∈ es, HeldS e.kids) : HeldS es := by
  intro w v k hv hk1 hkb
  have hlen' := markAll_length es k
  obtain ⟨ad, cap, rfl⟩ := hv.slice
  rw [hlen'] at hv ⊢
  go_enter Tryd.func22, Tryd.ntmps22
  go_wp2_with fail
  go_loopw [1, 5] (fun u i wr => ∃ (j kk : Nat), j ≤ es.length ∧ i = .int .i64 j ∧ u = .int .i64 kk ∧ Hid (kk = k + 4 * cntAll (es.take j)) ∧ Below w.heap.size w wr) (fun _ i _ => es.length - (intOf i).toNat)
  case atStart => exact ⟨0, k, by omega, rfl, rfl, by show _ = _; simp [cntAll], Below.refl _ _⟩
  case round =>
    obtain ⟨j, kk, hj, rfl, rfl, HK, hB⟩ := hrel
    by_cases hlt : j < es.length
    · have hge := markAll_get es k j hlt
      rw [← HK.out, markM_eq] at hge
      obtain ⟨b, off, cap', s, hS, hsl, hr, hl⟩ := hv.at hge
      rw [hlen'] at hsl
      obtain ⟨rfl, rfl⟩ : ad = some ⟨b, off, none⟩ ∧ cap = cap' := by simpa using hsl
      obtain ⟨c0, c1, c2, c3, c4⟩ := Ex.five (rangeAt_same (hB.block b hS) hr)
      have hl' := (hl.keep hB hB.size)
      have hSb : b < wr.heap.size := Nat.lt_of_lt_of_le hS hB.size
      have hroom := cnt_room es j hlt
      have hKK := HK.out
      have hkk1 : 1 ≤ kk := by omega
      have hkk2 : kk + 4 + 4 * cntAll es[j].kids ≤ 100000000 := by omega
      simp only [Ex.kind, Ex.name, Ex.tail, Ex.num, Ex.kids] at c0 c1 c2 c3 hl'
      have c3' : wr.cell? ⟨b, off + j * 5 + 3, none⟩ = some (.int .i64 ((kk : Int) + 3)) := by rw [c3]; simp
      have hmt1 : ∀ (z : Int), z = (kk : Int) + 1 → ∀ w : World, Calls Tryd.prog 37 #[.int .i64 z] w fun r w' => r = .returned (.string (markT (kk + 1))) ∧ Below w.heap.size w w' := fun z hz w => by subst hz; simpa using law_markText (kk + 1) (by omega) (by omega) w
      have hmt2 : ∀ (z : Int), z = (kk : Int) + 2 → ∀ w : World, Calls Tryd.prog 37 #[.int .i64 z] w fun r w' => r = .returned (.string (markT (kk + 2))) ∧ Below w.heap.size w w' := fun z hz w => by subst hz; simpa using law_markText (kk + 2) (by omega) (by omega) w
      have hih : ∀ (z : Int), z = (kk : Int) + 4 → ∀ w4 : World, Lies w4 (· < w4.heap.size) (markAll es[j].kids (kk + 4)) s → Calls Tryd.prog 22 #[s, .int .i64 z] w4 fun r w' => r = .returned (.int .i64 ((kk + 4 + 4 * cntAll es[j].kids : Nat) : Int)) ∧ Below w4.heap.size w4 w' := fun z hz w4 ht => by
        subst hz; simpa using ih es[j] (List.getElem_mem hlt) w4 s (kk + 4) ht (by omega) hkk2
      have hij : (j : Int) < (es.length : Int) := by omega
      obtain ⟨t1, ht1⟩ : ∃ t, t = markT (kk + 1) := ⟨_, rfl⟩
      obtain ⟨t2, ht2⟩ : ∃ t, t = markT (kk + 2) := ⟨_, rfl⟩
      rw [← ht1] at hmt1 c1
      rw [← ht2] at hmt2 c2
      have hd1 : Below wr.heap.size wr wr.drew := (Below.refl _ _).drew
      clear hKK hsl hroom hr hl hge ih c3 ht1 ht2
      go_wp2_with fail
      go_region_held3 (fun w' => w'.cell? ⟨b, off + j * 5 + 1, none⟩ = some (.string t1))
        (first | (rw [hc1.cell (by dsimp only; omega)]; exact c1) | exact c1)
        (first | (go_at_call 37; refine (hmt1 _ (by omega) _).mono ?_; rintro r w2 ⟨rfl, hb2⟩; have hc1 := below_next hd1 hb2))
      have e2 : w2.cell? ⟨b, off + j * 5 + 2, none⟩ = some (.string t2) := by rw [hc1.cell (by dsimp only; omega)]; exact c2
      have hz1 := hc1.size
      have hd2 : Below w2.heap.size w2 w2.drew := (Below.refl _ _).drew
      go_wp2_with fail
      go_region_held3 (fun w' => w'.cell? ⟨b, off + j * 5 + 2, none⟩ = some (.string t2))
        (first | (rw [hc2.cell (by dsimp only; omega)]; exact e2) | exact e2)
        (first | (go_at_call 37; refine (hmt2 _ (by omega) _).mono ?_; rintro r w3 ⟨rfl, hb3⟩; have hc2 := below_next hd2 hb3))
      have hc3 := below_next hc1 hc2
      have e3 : w3.cell? ⟨b, off + j * 5 + 3, none⟩ = some (.int .i64 ((kk : Int) + 3)) := by rw [hc3.cell (by dsimp only; omega)]; exact c3'
      have e4 : w3.cell? ⟨b, off + j * 5 + 4, none⟩ = some s := by rw [hc3.cell (by dsimp only; omega)]; exact c4
      have hl3 := hl'.keep hc3 hc3.size
      have hge0 : 0 ≤ (kk : Int) + 4 + 4 * (cntAll es[j].kids : Int) := by omega
      go_wp2_with (go_at_call 22; refine (hih _ (by omega) _ hl3).mono ?_; rintro r w4 ⟨rfl, hb4⟩)
      go_roundw
      case rel => exact ⟨j + 1, kk + 4 + 4 * cntAll es[j].kids, by omega, by go_num, by go_num, by show _ = _; rw [cntAll_take es j hlt]; have := HK.out; omega, below_next hB (below_next hc3 hb4)⟩
      case measure => simp [intOf]; omega
    · obtain rfl : j = es.length := by omega
      have HE : Hid (kk = k + 4 * cntAll es) := by have := HK.out; rw [List.take_length] at this; exact this
      go_wp2_with fail
      go_ret
      exact ⟨by rw [← HE.out]; rfl, hB⟩

theorem heldS (e : Ex) : e.Wee → HeldS e.kids := by
  induction e using Ex.ind with
  | h e ih =>
    intro hf
    obtain ⟨_, hk, hx⟩ := hf
    exact heldS_walk e.kids hk (fun x hx' => ih x hx' (hx x hx'))

set_option maxHeartbeats 400000 in
theorem law_heldExpr (e : Ex) (hf : e.Wee) (x : Ex) (w : World) (s : Value) (k : Nat) (hv : Lies w (· < w.heap.size) (markAll e.kids k) s) (hk1 : 1 ≤ k) (hkb : k + 4 * cntAll e.kids ≤ 100000000) :
    Calls Tryd.prog 10 #[x.val s, .int .i64 k] w fun r w' => r = .returned (.int .i64 ((k + 4 * cntAll e.kids : Nat) : Int)) ∧ Below w.heap.size w w' := by
  have hS := heldS e hf
  have hv' : ∀ o, Lies (w.alloc o) (· < (w.alloc o).heap.size) (markAll e.kids k) s := fun o => hv.keep ((Below.refl _ _).alloc (Nat.le_refl _) o) (by simp)
  have hge0 : 0 ≤ (k : Int) + 4 * (cntAll e.kids : Int) := by omega
  go_enter Tryd.func10, Tryd.ntmps10
  go_wp2_with (go_at_call 22; refine (hS _ _ k (hv' _) hk1 hkb).mono ?_; rintro r w2 ⟨rfl, hb2⟩)
  go_ret
  exact ⟨rfl, below_pre hb2⟩
end Go.Proofs.YtkjppjhmejkidaaDoor

