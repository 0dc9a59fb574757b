/-
  Numbers in figures: the library's strconv.Itoa, and the specification's l1Dec, of every number.
-/
import Derived.Test.YthmpgeppicbhlaaDoorRows
import Derived.Test.YthmpgeppicbhlaaDoorRwRow
import Derived.WalkKit
import Derived.WalkSpells
import Derived.WalkLawsBesides
import Derived.Deep.RegionWith
import Derived.Deep.RegionHeld3
import Derived.Lib.AppendIntMem
import Derived.Shelf.Strconv.Itoa3
import Derived.Shelf.Lay
import Derived.Ground.NamesProg
namespace Go.Proofs.YthmpgeppicbhlaaDoor
open Go.RowKit Go.Shelf

shelf_lay LaysM.n171 Nm 171 at Tryd as lays171

/-- A number in figures. -/
def decZ (n : Int) : ByteArray := ⟨(Lib.itoa n).toArray⟩
def decN (n : Nat) : ByteArray := ⟨(Lib.decDigits n).toArray⟩
/-- The library's table of powers is as it is laid. -/
abbrev PowTab (w : World) : Prop := Lib.TabIs Tryd.prog w "internal/strconv.uint64pow10" .u64 Lib.pow10Tab
theorem PowTab.keep {w w' : World} (h : PowTab w) (hb : Below w.heap.size w w') : PowTab w' := Lib.tabBelow_of_tabIs h w' hb
theorem impl_Itoa (n : Int) (h0 : -9223372036854775808 ≤ n) (h1 : n ≤ 9223372036854775807) (w : World) (hT : PowTab w) : Calls Tryd.prog 33 #[.int .i64 n] w fun e w' => e = .returned (.string (decZ n)) ∧ Below w.heap.size w w' :=
  (Any.strconv_Itoa lays171 n h0 h1 w hT).mono fun e w' ⟨h, k, os, hw⟩ => ⟨h, by rw [hw]; exact Lib.below_grow _ _ (Nat.le_refl _) k os⟩
theorem decZ_nat (n : Nat) : decZ n = decN n := by rw [decZ, Lib.itoa_nonneg]; rfl
theorem dec_len (k : Nat) : ∀ n : Nat, n < 10 ^ (k + 1) → (Lib.decDigits n).length ≤ k + 1 := by
  induction k with
  | zero => intro n hn; rw [Lib.decDigits_one (by simpa using hn)]; simp
  | succ k ih =>
    intro n hn
    rw [Lib.decDigits]
    split
    · simp
    · have := ih (n / 10) (by rw [Nat.pow_succ] at hn; omega)
      simp; omega
theorem decN_size (n : Nat) (hn : n ≤ 9223372036854775807) : (decN n).size ≤ 19 := by
  have := dec_len 18 n (by omega)
  exact this
theorem decZ_size (n : Int) (h0 : -9223372036854775807 ≤ n) (h1 : n ≤ 9223372036854775807) : (decZ n).size ≤ 20 := by
  have h : (decZ n).size = (Lib.itoa n).length := rfl
  rw [h, Lib.itoa]
  split
  · have := dec_len 18 n.natAbs (by omega)
    simp; omega
  · have := dec_len 18 n.toNat (by omega)
    omega

theorem ht_cell_new0 (w : World) (v : Value) (t : TypeId) (n : Nat) (hn : n = w.heap.size) : (w.alloc (.cells #[v] t)).cell? ⟨n, 0, none⟩ = some v := by subst hn; rw [cell_of_row _ _ _ _ _ _ (heap_alloc_new w _)]; rfl
theorem ht_cell_later0 {w w2 : World} {v : Value} {t : TypeId} (hb : Below (w.alloc (.cells #[v] t)).heap.size (w.alloc (.cells #[v] t)) w2) : w2.cell? ⟨w.heap.size, 0, none⟩ = some v := by rw [hb.cell (by simp)]; exact ht_cell_new0 _ _ _ _ rfl
theorem ht_conv_one (w : World) (c : UInt8) (z : Int) (n : Nat) (hz : z = (c.toNat : Int)) (hn : n = w.heap.size) : (convert 45 9 (.slice (some ⟨n, 0, none⟩) 1 1)).run Tryd.prog (w.alloc (.cells #[.int .u8 z] 5)) = .ok (.string ⟨#[c]⟩) (w.alloc (.cells #[.int .u8 z] 5)) := by
  subst hn hz
  refine run_convert_bytes_back (P := Tryd.prog) _ 45 9 5 ⟨w.heap.size, 0, none⟩ 1 [c] Tryd.underlying45 Tryd.underlying5 Tryd.underlying9 ?_
  intro j hj
  obtain rfl : j = 0 := by simpa using hj
  rw [Addr.add_mid]; exact ht_cell_new0 _ _ _ _ rfl

theorem ht_run_conv (w : World) (c : UInt8) (z : Int) (n : Nat) (hz : z = (c.toNat : Int)) (hc : w.cell? ⟨n, 0, none⟩ = some (.int .u8 z)) : (convert 45 9 (.slice (some ⟨n, 0, none⟩) 1 1)).run Tryd.prog w = .ok (.string ⟨#[c]⟩) w := by
  subst hz
  refine run_convert_bytes_back (P := Tryd.prog) _ 45 9 5 ⟨n, 0, none⟩ 1 [c] Tryd.underlying45 Tryd.underlying5 Tryd.underlying9 ?_
  intro j hj
  obtain rfl : j = 0 := by simpa using hj
  rw [Addr.add_mid]; exact hc
set_option maxRecDepth 100000 in
theorem ht_dec_low (n : Nat) (hn : n < 10) (w : World) : Calls Tryd.prog 28 #[.int .i64 n] w fun r w' => r = .returned (.string (decN n)) ∧ Below w.heap.size w w' := by
  obtain ⟨c, hc⟩ : ∃ c : UInt8, c = UInt8.ofNat (48 + n) := ⟨_, rfl⟩
  have hcv := ht_conv_one w c (48 + n) w.heap.size (by rw [hc]; simp; omega) rfl
  have HD : Hid (decN n = ⟨#[c]⟩) := by show _ = _; rw [decN, Lib.decDigits_one hn, hc]
  clear hc
  go_enter Tryd.func28, Tryd.ntmps28
  go_wp2_with fail
  go_ret
  exact ⟨by rw [HD.out]; rfl, (Below.refl _ _).alloc (Nat.le_refl _) _⟩
theorem ht_cell_later1 {w w2 : World} {v : Value} {t : TypeId} (hb : Below (w.alloc (.cells #[v] t)).drew.heap.size (w.alloc (.cells #[v] t)).drew w2) : w2.cell? ⟨w.heap.size, 0, none⟩ = some v := by
  rw [hb.cell (by simp [World.drew])]; exact ht_cell_new0 _ _ _ _ rfl

theorem ht_dec_frame1 {w w2 : World} {o : Obj} (hb : Below w.drew.heap.size w.drew w2) : Below w.heap.size w (w2.alloc o) := below_all (Below.trans (B := w.heap.size) (Below.refl _ w).drew hb)
where below_all {w w1 : World} {o : Obj} (h : Below w.heap.size w w1) : Below w.heap.size w (w1.alloc o) := h.alloc h.size o
theorem ht_dec_frame2 {w w2 : World} {o : Obj} (hb : Below (w.alloc o).drew.heap.size (w.alloc o).drew w2) : Below w.heap.size w w2 :=
  Below.trans (((Below.refl w.heap.size w).alloc (Nat.le_refl _) o).drew) (hb.mono (by simp [World.drew]))

set_option maxRecDepth 100000 in
set_option maxHeartbeats 400000 in
theorem ht_l1Dec (n : Nat) : n ≤ 9223372036854775807 → ∀ w : World, Calls Tryd.prog 28 #[.int .i64 n] w fun r w' => r = .returned (.string (decN n)) ∧ Below w.heap.size w w' := by
  induction n using Nat.strongRecOn with
  | _ n ih =>
  intro hn w
  by_cases h10 : n < 10
  · exact ht_dec_low n h10 w
  · obtain ⟨m, hm⟩ : ∃ m, m = n / 10 := ⟨_, rfl⟩
    obtain ⟨q, hq⟩ : ∃ q, q = n % 10 := ⟨_, rfl⟩
    obtain ⟨c, hc⟩ : ∃ c : UInt8, c = UInt8.ofNat (48 + q) := ⟨_, rfl⟩
    have HD : Hid (decN n = decN m ++ ⟨#[c]⟩) := by
      show _ = _
      rw [hm, decN, Lib.decDigits, dif_neg h10, hc, hq]
      apply ByteArray.ext
      simp [decN, ByteArray.data_append]
    have hq9 : q < 10 := by omega
    have hm9 : m < n := by omega
    have hge : 10 ≤ n := by omega
    have hwr : IntKind.i64.wrap ((n : Int) / 10) = (m : Int) := by
      rw [show (n : Int) / 10 = (m : Int) by omega, IntKind.wrap_i64]; omega
    have hwm : IntKind.i64.wrap ((n : Int) % 10) = (q : Int) := by
      rw [show (n : Int) % 10 = (q : Int) by omega, IntKind.wrap_i64]; omega
    have hwq : (n : Int) % 10 = (q : Int) := by omega
    have hzc : (48 : Int) + q = (c.toNat : Int) := by rw [hc]; simp; omega
    have hZ : IntKind.u8.wrap (IntKind.i64.wrap (48 + (n : Int).tmod 10)) = (c.toNat : Int) := by
      rw [Int.tmod_eq_emod_of_nonneg (by omega), hwq, IntKind.wrap_i64, show ((48 : Int) + q + 9223372036854775808) % 18446744073709551616 - 9223372036854775808 = 48 + q by omega, hzc]
      simp [IntKind.wrap, IntKind.bits, IntKind.signed]
      have := c.toNat_lt; omega
    have hcv : ∀ W : World, _ := fun W => ht_conv_one W c (c.toNat : Int) W.heap.size rfl rfl
    have hcv3 : ∀ W : World, _ := fun W => ht_run_conv (W.alloc (.cells #[.int .u8 (c.toNat : Int)] 5)).drew c (c.toNat : Int) W.heap.size rfl (ht_cell_new0 W (.int .u8 (c.toNat : Int)) 5 W.heap.size rfl)
    have hlow : ∀ (z : Int), z = (m : Int) → ∀ w : World, Calls Tryd.prog 28 #[.int .i64 z] w fun r w' => r = .returned (.string (decN m)) ∧ Below w.heap.size w w' := fun z hz w => by subst hz; exact ih m hm9 (by omega) w
    have hds : (decN m).size ≤ 19 := decN_size m (by omega)
    clear hm hq hc h10 ih
    go_enter Tryd.func28, Tryd.ntmps28
    go_wp2_with fail
    go_region_with (go_at_call 28; refine (hlow _ (by first | rfl | exact hwr) _).mono ?_; rintro r w2 ⟨rfl, hb2⟩; first | (have hcv2 := ht_run_conv w2 c (c.toNat : Int) _ rfl (ht_cell_later1 hb2)) | (have hcv2 := ht_run_conv w2 c (c.toNat : Int) _ rfl (ht_cell_later0 hb2)) | skip)
    all_goals
      go_wp2_with fail
      go_ret
      exact ⟨by rw [HD.out]; rfl, by first | exact ht_dec_frame2 hb2 | exact ht_dec_frame1 hb2⟩
end Go.Proofs.YthmpgeppicbhlaaDoor
