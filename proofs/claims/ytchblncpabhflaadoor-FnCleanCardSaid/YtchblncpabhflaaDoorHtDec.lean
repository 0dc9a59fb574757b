/-
  Numbers in figures: the library's strconv.Itoa, and the specification's l1Dec, of every number.
-/
import Derived.Test.YtchblncpabhflaaDoorRows
import Derived.Test.YtchblncpabhflaaDoorRwRow
import Derived.WalkKit
import Derived.WalkSpells
import Derived.WalkLawsBesides
import Derived.Deep.RegionWith
import Derived.Deep.RegionHeld3
import Derived.Lib.AppendIntMem
import Derived.Shelf.Strconv.Itoa3
import Derived.Shelf.Lay
import Derived.Ground.NamesProg
namespace Go.Proofs.YtchblncpabhflaaDoor
open Go.RowKit Go.Shelf

shelf_lay LaysM.n171 Nm 171 at Tryd as lays171

/-- A number in figures. -/
def decZ (n : Int) : ByteArray := ⟨(Lib.itoa n).toArray⟩
def decN (n : Nat) : ByteArray := ⟨(Lib.decDigits n).toArray⟩
/-- The library's table of powers is as it is laid. -/
abbrev PowTab (w : World) : Prop := Lib.TabIs Tryd.prog w "internal/strconv.uint64pow10" .u64 Lib.pow10Tab
theorem PowTab.keep {w w' : World} (h : PowTab w) (hb : Below w.heap.size w w') : PowTab w' := Lib.tabBelow_of_tabIs h w' hb
theorem impl_Itoa (n : Int) (h0 : -9223372036854775808 ≤ n) (h1 : n ≤ 9223372036854775807) (w : World) (hT : PowTab w) : Calls Tryd.prog 34 #[.int .i64 n] w fun e w' => e = .returned (.string (decZ n)) ∧ Below w.heap.size w w' :=
  (Any.strconv_Itoa lays171 n h0 h1 w hT).mono fun e w' ⟨h, k, os, hw⟩ => ⟨h, by rw [hw]; exact Lib.below_grow _ _ (Nat.le_refl _) k os⟩
theorem decZ_nat (n : Nat) : decZ n = decN n := by rw [decZ, Lib.itoa_nonneg]; rfl
theorem dec_len (k : Nat) : ∀ n : Nat, n < 10 ^ (k + 1) → (Lib.decDigits n).length ≤ k + 1 := by
  induction k with
  | zero => intro n hn; rw [Lib.decDigits_one (by simpa using hn)]; simp
  | succ k ih =>
    intro n hn
    rw [Lib.decDigits]
    split
    · simp
    · have := ih (n / 10) (by rw [Nat.pow_succ] at hn; omega)
      simp; omega
theorem decN_size (n : Nat) (hn : n ≤ 9223372036854775807) : (decN n).size ≤ 19 := by
  have := dec_len 18 n (by omega)
  exact this
theorem decZ_size (n : Int) (h0 : -9223372036854775807 ≤ n) (h1 : n ≤ 9223372036854775807) : (decZ n).size ≤ 20 := by
  have h : (decZ n).size = (Lib.itoa n).length := rfl
  rw [h, Lib.itoa]
  split
  · have := dec_len 18 n.natAbs (by omega)
    simp; omega
  · have := dec_len 18 n.toNat (by omega)
    omega

theorem ht_cell_new0 (w : World) (v : Value) (t : TypeId) (n : Nat) (hn : n = w.heap.size) : (w.alloc (.cells #[v] t)).cell? ⟨n, 0, none⟩ = some v := by subst hn; rw [cell_of_row _ _ _ _ _ _ (heap_alloc_new w _)]; rfl
theorem ht_cell_later0 {w w2 : World} {v : Value} {t : TypeId} (hb : Below (w.alloc (.cells #[v] t)).heap.size (w.alloc (.cells #[v] t)) w2) : w2.cell? ⟨w.heap.size, 0, none⟩ = some v := by rw [hb.cell (by simp)]; exact ht_cell_new0 _ _ _ _ rfl
theorem ht_conv_one (w : World) (c : UInt8) (z : Int) (n : Nat) (hz : z = (c.toNat : Int)) (hn : n = w.heap.size) : (convert 22 9 (.slice (some ⟨n, 0, none⟩) 1 1)).run Tryd.prog (w.alloc (.cells #[.int .u8 z] 5)) = .ok (.string ⟨#[c]⟩) (w.alloc (.cells #[.int .u8 z] 5)) := by
  subst hn hz
  refine run_convert_bytes_back (P := Tryd.prog) _ 22 9 5 ⟨w.heap.size, 0, none⟩ 1 [c] Tryd.underlying22 Tryd.underlying5 Tryd.underlying9 ?_
  intro j hj
  obtain rfl : j = 0 := by simpa using hj
  rw [Addr.add_mid]; exact ht_cell_new0 _ _ _ _ rfl

theorem ht_run_conv (w : World) (c : UInt8) (z : Int) (n : Nat) (hz : z = (c.toNat : Int)) (hc : w.cell? ⟨n, 0, none⟩ = some (.int .u8 z)) : (convert 22 9 (.slice (some ⟨n, 0, none⟩) 1 1)).run Tryd.prog w = .ok (.string ⟨#[c]⟩) w := by
  subst hz
  refine run_convert_bytes_back (P := Tryd.prog) _ 22 9 5 ⟨n, 0, none⟩ 1 [c] Tryd.underlying22 Tryd.underlying5 Tryd.underlying9 ?_
  intro j hj
  obtain rfl : j = 0 := by simpa using hj
  rw [Addr.add_mid]; exact hc
theorem ht_cell_later1 {w w2 : World} {v : Value} {t : TypeId} (hb : Below (w.alloc (.cells #[v] t)).drew.heap.size (w.alloc (.cells #[v] t)).drew w2) : w2.cell? ⟨w.heap.size, 0, none⟩ = some v := by
  rw [hb.cell (by simp [World.drew])]; exact ht_cell_new0 _ _ _ _ rfl

theorem ht_dec_frame1 {w w2 : World} {o : Obj} (hb : Below w.drew.heap.size w.drew w2) : Below w.heap.size w (w2.alloc o) := below_all (Below.trans (B := w.heap.size) (Below.refl _ w).drew hb)
where below_all {w w1 : World} {o : Obj} (h : Below w.heap.size w w1) : Below w.heap.size w (w1.alloc o) := h.alloc h.size o
theorem ht_dec_frame2 {w w2 : World} {o : Obj} (hb : Below (w.alloc o).drew.heap.size (w.alloc o).drew w2) : Below w.heap.size w w2 :=
  Below.trans (((Below.refl w.heap.size w).alloc (Nat.le_refl _) o).drew) (hb.mono (by simp [World.drew]))

end Go.Proofs.YtchblncpabhflaaDoor
