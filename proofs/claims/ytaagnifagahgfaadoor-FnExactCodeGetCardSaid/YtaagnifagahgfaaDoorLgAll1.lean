/-
  Rows of plain things, so many cells each, in a block. No program is named here.
  Numbers in figures: the library's strconv.Itoa, and the specification's l1Dec, of every number.
-/
import Derived.Below
import Derived.Deep.MidRow
import Derived.WalkKit
import Derived.Test.YtaagnifagahgfaaDoorRows
import Derived.WalkSpells
import Derived.WalkLawsBesides
import Derived.Deep.RegionWith
import Derived.Deep.RegionHeld3
import Derived.Lib.AppendIntMem
import Derived.Shelf.Strconv.Itoa3
import Derived.Shelf.Lay
import Derived.Ground.NamesProg
namespace Go.Proofs.YtaagnifagahgfaaDoor
open Go.RowKit

theorem rw_same {w w' : World} {b o : Nat} {cs : List Value} (hs : w'.heap[b]? = w.heap[b]?) (h : w.rangeAt b o cs) : w'.rangeAt b o cs :=
  fun j v hv => by rw [← h j v hv]; exact World.cell?_of_block (w := w) hs

theorem rw_cell {W w1 : World} (hb : Below W.heap.size W w1) : (∀ b o, b < W.heap.size → w1.cell? ⟨b, o, none⟩ = W.cell? ⟨b, o, none⟩) ∧ (∀ b o, b < W.heap.size → w1.frozen? ⟨b, o, none⟩ = W.frozen? ⟨b, o, none⟩) :=
  ⟨fun b o h => hb.cell (p := ⟨b, o, none⟩) h, fun b o h => hb.frozen (p := ⟨b, o, none⟩) h⟩

theorem rw_frozen_set (w : World) (p q : Addr) (v : Value) : (w.setCell p v).frozen? q = w.frozen? q := by
  unfold World.frozen? World.setCell
  simp only [Array.getElem?_modify]
  by_cases h : p.block = q.block
  · rw [if_pos h]
    cases hq : w.heap[q.block]? with
    | none => rfl
    | some o => cases o <;> rfl
  · rw [if_neg h]
theorem rw_unfrozen_new (w : World) (b o : Nat) (h : w.heap.size ≤ b) : w.frozen? ⟨b, o, none⟩ = false := by
  unfold World.frozen?
  rw [Array.getElem?_eq_none h]

/-- The things l lie in w as the slice value v, n cells each, in a block of which S holds. -/
def RowOf {α : Type} (n : Nat) (f : α → List Value) (w : World) (S : Nat → Prop) (l : List α) (v : Value) : Prop :=
  ∃ a cap, v = .slice a l.length cap ∧ ∀ i x, l[i]? = some x → ∃ b off, S b ∧ a = some ⟨b, off, none⟩ ∧ w.rangeAt b (off + i * n) (f x)

section
variable {α : Type} {n : Nat} {f : α → List Value} {w w' : World} {S S' : Nat → Prop} {l : List α} {v : Value}
theorem RowOf.same (h : RowOf n f w S l v) (hs : ∀ b, S b → w'.heap[b]? = w.heap[b]? ∧ S' b) : RowOf n f w' S' l v := by
  obtain ⟨a, cap, rfl, h⟩ := h
  refine ⟨a, cap, rfl, fun i x hi => ?_⟩
  obtain ⟨b, off, hb, rfl, hr⟩ := h i x hi
  exact ⟨b, off, (hs b hb).2, rfl, rw_same (hs b hb).1 hr⟩
theorem RowOf.keep {B B' : Nat} (h : RowOf n f w (· < B) l v) (hb : Below B w w') (hB : B ≤ B') : RowOf n f w' (· < B') l v :=
  h.same fun b hlt => ⟨hb.block b hlt, Nat.lt_of_lt_of_le hlt hB⟩
theorem RowOf.drew (h : RowOf n f w S l v) : RowOf n f w.drew S l v := h.same fun _ hb => ⟨rfl, hb⟩
theorem RowOf.slice (h : RowOf n f w S l v) : ∃ a cap, v = .slice a l.length cap := by
  obtain ⟨a, cap, rfl, _⟩ := h
  exact ⟨a, cap, rfl⟩
theorem RowOf.at {a : Option Addr} {cap m : Nat} (h : RowOf n f w S l (.slice a m cap)) (i : Nat) (hi : i < l.length) : ∃ b off, S b ∧ a = some ⟨b, off, none⟩ ∧ w.rangeAt b (off + i * n) (f l[i]) := by
  obtain ⟨a', cap', he, h⟩ := h
  obtain ⟨rfl, rfl, rfl⟩ : a = a' ∧ m = l.length ∧ cap = cap' := by simpa using he
  exact h i _ (List.getElem?_eq_getElem hi)
theorem RowOf.nil (a : Option Addr) (cap : Nat) : RowOf n f w S [] (.slice a 0 cap) := ⟨a, cap, rfl, fun i x h => by simp at h⟩
end

theorem rw_heap_setCells (b : Nat) : ∀ (vs : List Value) (o : Nat) (w : World) (k : Nat), k ≠ b → (w.setCells b o vs).heap[k]? = w.heap[k]?
  | [], _, _, _, _ => rfl
  | v :: r, o, w, k, h => by
    rw [World.setCells, rw_heap_setCells b r (o + 1) _ k h]
    exact Below.heap_setCell _ _ _ _ h
theorem rw_size_setCells (b : Nat) : ∀ (vs : List Value) (o : Nat) (w : World), (w.setCells b o vs).heap.size = w.heap.size
  | [], _, _ => rfl
  | v :: r, o, w => by
    rw [World.setCells, rw_size_setCells b r (o + 1)]
    simp [World.setCell]
theorem rw_below_setCells {B b : Nat} {a : World} (hB : B ≤ b) : ∀ (vs : List Value) (o : Nat) (w : World), Below B a w → Below B a (w.setCells b o vs)
  | [], _, _, h => h
  | v :: r, o, w, h => by
    rw [World.setCells]
    exact rw_below_setCells hB r (o + 1) _ (h.setCell (p := ⟨b, o, none⟩) hB v)
theorem rw_there_made (w : World) (z : Array Value) (n : Nat) (t : TypeId) : (w.alloc (.cells (madeCells z n) t)).there w.heap.size 0 n := fun j hj => by
  have hb : (w.alloc (.cells (madeCells z n) t)).heap[w.heap.size]? = some (.cells (madeCells z n) t) := heap_alloc_new _ _
  refine ⟨?_, ?_⟩
  · rw [cell_of_row _ _ _ _ _ _ hb]; simp [size_madeCells, hj]
  · unfold World.frozen?
    rw [hb]
    simp
theorem rw_there_part {w : World} {b o n k : Nat} (h : w.there b 0 n) (hn : o + k ≤ n) : w.there b o k := fun j hj => by
  have := h (o + j) (by omega)
  simpa using this
theorem rw_there_same {w w' : World} {b o n : Nat} (hs : w'.heap[b]? = w.heap[b]?) (h : w.there b o n) : w'.there b o n := fun j hj => by
  obtain ⟨h1, h2⟩ := h j hj
  exact ⟨by rw [World.cell?_of_block (w := w) hs]; exact h1, by rw [World.frozen?_of_block (w := w) hs]; exact h2⟩

/-- The first m of l are copied into block nb. -/
def CopyTo {α : Type} (n : Nat) (f : α → List Value) (w : World) (nb : Nat) (l : List α) (m : Nat) : Prop := ∀ i x, i < m → l[i]? = some x → w.rangeAt nb (i * n) (f x)
theorem CopyTo.zero {α : Type} {n : Nat} {f : α → List Value} {w : World} {nb : Nat} {l : List α} : CopyTo n f w nb l 0 := fun i x h => absurd h (by omega)
theorem CopyTo.next {α : Type} {n : Nat} {f : α → List Value} {wr w2 : World} {nb : Nat} {l : List α} {m : Nat} (hd : CopyTo n f wr nb l m) (hf : ∀ x, (f x).length = n) (hlt : m < l.length) (hb : w2.heap[nb]? = wr.heap[nb]?)
    (hth : w2.there nb (m * n) n) : CopyTo n f (w2.setCells nb (m * n) (f l[m])) nb l (m + 1) := by
  intro i x hi hx
  by_cases h : i < m
  · refine World.rangeAt_setCells_apart (rw_same hb (hd i x h hx)) _ _ _ (Or.inr (Or.inl ?_))
    rw [hf]
    have : (i + 1) * n ≤ m * n := Nat.mul_le_mul_right _ h
    rw [Nat.succ_mul] at this
    exact this
  · obtain rfl : i = m := by omega
    rw [List.getElem?_eq_getElem hlt] at hx
    cases hx
    exact World.rangeAt_setCells_same w2 nb (i * n) (f l[i]) (by rw [hf]; exact hth)
theorem CopyTo.all {α : Type} {n : Nat} {f : α → List Value} {w : World} {nb : Nat} {l : List α} (hd : CopyTo n f w nb l l.length) {S : Nat → Prop} (hS : S nb) (cap : Nat) : RowOf n f w S l (.slice (some ⟨nb, 0, none⟩) l.length cap) :=
  ⟨_, _, rfl, fun i x hi => ⟨nb, 0, hS, rfl, by have := hd i x (List.getElem?_eq_some_iff.1 hi).1 hi; simpa using this⟩⟩
end Go.Proofs.YtaagnifagahgfaaDoor

namespace Go.Proofs.YtaagnifagahgfaaDoor
open Go.RowKit Go.Shelf

shelf_lay LaysM.n171 Nm 171 at Tryd as lays171

/-- A number in figures. -/
def decZ (n : Int) : ByteArray := ⟨(Lib.itoa n).toArray⟩
def decN (n : Nat) : ByteArray := ⟨(Lib.decDigits n).toArray⟩
/-- The library's table of powers is as it is laid. -/
abbrev PowTab (w : World) : Prop := Lib.TabIs Tryd.prog w "internal/strconv.uint64pow10" .u64 Lib.pow10Tab
theorem PowTab.keep {w w' : World} (h : PowTab w) (hb : Below w.heap.size w w') : PowTab w' := Lib.tabBelow_of_tabIs h w' hb
theorem impl_Itoa (n : Int) (h0 : -9223372036854775808 ≤ n) (h1 : n ≤ 9223372036854775807) (w : World) (hT : PowTab w) : Calls Tryd.prog 36 #[.int .i64 n] w fun e w' => e = .returned (.string (decZ n)) ∧ Below w.heap.size w w' :=
  (Any.strconv_Itoa lays171 n h0 h1 w hT).mono fun e w' ⟨h, k, os, hw⟩ => ⟨h, by rw [hw]; exact Lib.below_grow _ _ (Nat.le_refl _) k os⟩
theorem decZ_nat (n : Nat) : decZ n = decN n := by rw [decZ, Lib.itoa_nonneg]; rfl
theorem dec_len (k : Nat) : ∀ n : Nat, n < 10 ^ (k + 1) → (Lib.decDigits n).length ≤ k + 1 := by
  induction k with
  | zero => intro n hn; rw [Lib.decDigits_one (by simpa using hn)]; simp
  | succ k ih =>
    intro n hn
    rw [Lib.decDigits]
    split
    · simp
    · have := ih (n / 10) (by rw [Nat.pow_succ] at hn; omega)
      simp; omega
theorem decN_size (n : Nat) (hn : n ≤ 9223372036854775807) : (decN n).size ≤ 19 := by
  have := dec_len 18 n (by omega)
  exact this
theorem decZ_size (n : Int) (h0 : -9223372036854775807 ≤ n) (h1 : n ≤ 9223372036854775807) : (decZ n).size ≤ 20 := by
  have h : (decZ n).size = (Lib.itoa n).length := rfl
  rw [h, Lib.itoa]
  split
  · have := dec_len 18 n.natAbs (by omega)
    simp; omega
  · have := dec_len 18 n.toNat (by omega)
    omega

theorem ht_cell_new0 (w : World) (v : Value) (t : TypeId) (n : Nat) (hn : n = w.heap.size) : (w.alloc (.cells #[v] t)).cell? ⟨n, 0, none⟩ = some v := by subst hn; rw [cell_of_row _ _ _ _ _ _ (heap_alloc_new w _)]; rfl
theorem ht_cell_later0 {w w2 : World} {v : Value} {t : TypeId} (hb : Below (w.alloc (.cells #[v] t)).heap.size (w.alloc (.cells #[v] t)) w2) : w2.cell? ⟨w.heap.size, 0, none⟩ = some v := by rw [hb.cell (by simp)]; exact ht_cell_new0 _ _ _ _ rfl
theorem ht_conv_one (w : World) (c : UInt8) (z : Int) (n : Nat) (hz : z = (c.toNat : Int)) (hn : n = w.heap.size) : (convert 66 9 (.slice (some ⟨n, 0, none⟩) 1 1)).run Tryd.prog (w.alloc (.cells #[.int .u8 z] 5)) = .ok (.string ⟨#[c]⟩) (w.alloc (.cells #[.int .u8 z] 5)) := by
  subst hn hz
  refine run_convert_bytes_back (P := Tryd.prog) _ 66 9 5 ⟨w.heap.size, 0, none⟩ 1 [c] Tryd.underlying66 Tryd.underlying5 Tryd.underlying9 ?_
  intro j hj
  obtain rfl : j = 0 := by simpa using hj
  rw [Addr.add_mid]; exact ht_cell_new0 _ _ _ _ rfl

theorem ht_run_conv (w : World) (c : UInt8) (z : Int) (n : Nat) (hz : z = (c.toNat : Int)) (hc : w.cell? ⟨n, 0, none⟩ = some (.int .u8 z)) : (convert 66 9 (.slice (some ⟨n, 0, none⟩) 1 1)).run Tryd.prog w = .ok (.string ⟨#[c]⟩) w := by
  subst hz
  refine run_convert_bytes_back (P := Tryd.prog) _ 66 9 5 ⟨n, 0, none⟩ 1 [c] Tryd.underlying66 Tryd.underlying5 Tryd.underlying9 ?_
  intro j hj
  obtain rfl : j = 0 := by simpa using hj
  rw [Addr.add_mid]; exact hc
set_option maxRecDepth 100000 in
theorem ht_dec_low (n : Nat) (hn : n < 10) (w : World) : Calls Tryd.prog 26 #[.int .i64 n] w fun r w' => r = .returned (.string (decN n)) ∧ Below w.heap.size w w' := by
  obtain ⟨c, hc⟩ : ∃ c : UInt8, c = UInt8.ofNat (48 + n) := ⟨_, rfl⟩
  have hcv := ht_conv_one w c (48 + n) w.heap.size (by rw [hc]; simp; omega) rfl
  have HD : Hid (decN n = ⟨#[c]⟩) := by show _ = _; rw [decN, Lib.decDigits_one hn, hc]
  clear hc
  go_enter Tryd.func26, Tryd.ntmps26
  go_wp2_with fail
  go_ret
  exact ⟨by rw [HD.out]; rfl, (Below.refl _ _).alloc (Nat.le_refl _) _⟩
theorem ht_cell_later1 {w w2 : World} {v : Value} {t : TypeId} (hb : Below (w.alloc (.cells #[v] t)).drew.heap.size (w.alloc (.cells #[v] t)).drew w2) : w2.cell? ⟨w.heap.size, 0, none⟩ = some v := by
  rw [hb.cell (by simp [World.drew])]; exact ht_cell_new0 _ _ _ _ rfl

theorem ht_dec_frame1 {w w2 : World} {o : Obj} (hb : Below w.drew.heap.size w.drew w2) : Below w.heap.size w (w2.alloc o) := below_all (Below.trans (B := w.heap.size) (Below.refl _ w).drew hb)
where below_all {w w1 : World} {o : Obj} (h : Below w.heap.size w w1) : Below w.heap.size w (w1.alloc o) := h.alloc h.size o
theorem ht_dec_frame2 {w w2 : World} {o : Obj} (hb : Below (w.alloc o).drew.heap.size (w.alloc o).drew w2) : Below w.heap.size w w2 :=
  Below.trans (((Below.refl w.heap.size w).alloc (Nat.le_refl _) o).drew) (hb.mono (by simp [World.drew]))

set_option maxRecDepth 100000 in
set_option maxHeartbeats 400000 in
theorem ht_l1Dec (n : Nat) : n ≤ 9223372036854775807 → ∀ w : World, Calls Tryd.prog 26 #[.int .i64 n] w fun r w' => r = .returned (.string (decN n)) ∧ Below w.heap.size w w' := by
  induction n using Nat.strongRecOn with
  | _ n ih =>
  intro hn w
  by_cases h10 : n < 10
  · exact ht_dec_low n h10 w
  · obtain ⟨m, hm⟩ : ∃ m, m = n / 10 := ⟨_, rfl⟩
    obtain ⟨q, hq⟩ : ∃ q, q = n % 10 := ⟨_, rfl⟩
    obtain ⟨c, hc⟩ : ∃ c : UInt8, c = UInt8.ofNat (48 + q) := ⟨_, rfl⟩
    have HD : Hid (decN n = decN m ++ ⟨#[c]⟩) := by
      show _ = _
      rw [hm, decN, Lib.decDigits, dif_neg h10, hc, hq]
      apply ByteArray.ext
      simp [decN, ByteArray.data_append]
    have hq9 : q < 10 := by omega
    have hm9 : m < n := by omega
    have hge : 10 ≤ n := by omega
    have hwr : IntKind.i64.wrap ((n : Int) / 10) = (m : Int) := by
      rw [show (n : Int) / 10 = (m : Int) by omega, IntKind.wrap_i64]; omega
    have hwm : IntKind.i64.wrap ((n : Int) % 10) = (q : Int) := by
      rw [show (n : Int) % 10 = (q : Int) by omega, IntKind.wrap_i64]; omega
    have hwq : (n : Int) % 10 = (q : Int) := by omega
    have hzc : (48 : Int) + q = (c.toNat : Int) := by rw [hc]; simp; omega
    have hZ : IntKind.u8.wrap (IntKind.i64.wrap (48 + (n : Int).tmod 10)) = (c.toNat : Int) := by
      rw [Int.tmod_eq_emod_of_nonneg (by omega), hwq, IntKind.wrap_i64, show ((48 : Int) + q + 9223372036854775808) % 18446744073709551616 - 9223372036854775808 = 48 + q by omega, hzc]
      simp [IntKind.wrap, IntKind.bits, IntKind.signed]
      have := c.toNat_lt; omega
    have hcv : ∀ W : World, _ := fun W => ht_conv_one W c (c.toNat : Int) W.heap.size rfl rfl
    have hcv3 : ∀ W : World, _ := fun W => ht_run_conv (W.alloc (.cells #[.int .u8 (c.toNat : Int)] 5)).drew c (c.toNat : Int) W.heap.size rfl (ht_cell_new0 W (.int .u8 (c.toNat : Int)) 5 W.heap.size rfl)
    have hlow : ∀ (z : Int), z = (m : Int) → ∀ w : World, Calls Tryd.prog 26 #[.int .i64 z] w fun r w' => r = .returned (.string (decN m)) ∧ Below w.heap.size w w' := fun z hz w => by subst hz; exact ih m hm9 (by omega) w
    have hds : (decN m).size ≤ 19 := decN_size m (by omega)
    clear hm hq hc h10 ih
    go_enter Tryd.func26, Tryd.ntmps26
    go_wp2_with fail
    go_region_with (go_at_call 26; refine (hlow _ (by first | rfl | exact hwr) _).mono ?_; rintro r w2 ⟨rfl, hb2⟩; first | (have hcv2 := ht_run_conv w2 c (c.toNat : Int) _ rfl (ht_cell_later1 hb2)) | (have hcv2 := ht_run_conv w2 c (c.toNat : Int) _ rfl (ht_cell_later0 hb2)) | skip)
    all_goals
      go_wp2_with fail
      go_ret
      exact ⟨by rw [HD.out]; rfl, by first | exact ht_dec_frame2 hb2 | exact ht_dec_frame1 hb2⟩
end Go.Proofs.YtaagnifagahgfaaDoor

