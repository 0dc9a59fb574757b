/-
  The reader of a code: one of a list of texts; a text that is bent.
  Numbers in figures: the library's strconv.Itoa, and the specification's l1Dec, of every number.
-/
import Derived.Test.YthikfinliiaecaaGreatDoorFgAll2
import Derived.Deep.RegionHeld3
import Derived.Deep.Cut
import Derived.Test.YthikfinliiaecaaGreatDoorRows
import Derived.Test.YthikfinliiaecaaGreatDoorFgAll0
import Derived.WalkKit
import Derived.WalkSpells
import Derived.WalkLawsBesides
import Derived.Deep.RegionWith
import Derived.Lib.AppendIntMem
import Derived.Shelf.Strconv.Itoa3
import Derived.Shelf.Lay
import Derived.Ground.NamesProg
namespace Go.Proofs.YthikfinliiaecaaGreatDoor
open Go.RowKit

/-- A list of texts lies in block h. -/
def TextsAt (w : World) (h : Nat) (l : List ByteArray) : Prop := ∀ i (hi : i < l.length), w.cell? ⟨h, i, none⟩ = some (.string l[i])
/-- How a text of a list is drawn. -/
def DrawnT (w w' : World) (g P : Nat) (r : Ending) : Prop := ∃ t : ByteArray, t.size ≤ 4 ∧ r = .returned (.string t) ∧ Rd w' g (P + 1) ∧ w.grownBy w' (some g)
set_option maxHeartbeats 1000000 in
theorem rd_of (w : World) (g h P : Nat) (l : List ByteArray) (hR : Rd w g P) (hP : P ≤ 1000000) (hl0 : 0 < l.length) (hl : l.length ≤ 1000) (hN : TextsAt w h l) (h4 : ∀ t ∈ l, t.size ≤ 4) (hgh : h ≠ g) (hh : h < w.heap.size) :
    Calls Tryz.prog 39 #[.pointer (some ⟨g, 0, none⟩), .slice (some ⟨h, 0, none⟩) l.length l.length] w fun r w' => DrawnT w w' g P r := by
  have hp := rd_pick w g P l.length hR hP (by omega)
  go_enter Tryz.func39, Tryz.ntmps39
  go_wp2_with (go_at_call 14; (refine hp.mono ?_; rintro r w2 ⟨k, rfl, hk, hR2, hg2⟩; have hk' : k < l.length := (by omega); have hki : (k : Int) < (l.length : Int) := (by omega); have hc := but_cell hg2 hh hgh (hN k hk')))
  go_ret
  exact ⟨l[k], h4 _ (List.getElem_mem hk'), rfl, hR2, hg2⟩
theorem texts_new (w : World) (cs : Array Value) (T : TypeId) (l : List ByteArray) (h : cs.toList = l.map (Value.string ·)) : TextsAt (w.alloc (.cells cs T)) w.heap.size l := fun i hi => by
  have := ow_cells_new w cs T i (.string l[i]) (by rw [h]; simp [hi])
  rw [Addr.add_mid] at this
  simpa using this
/-- A text of a list that is laid anew. -/
theorem rd_ofN (w W : World) (g P n : Nat) (l : List ByteArray) (cs : Array Value) (hW : W = w.alloc (.cells cs 9) ∨ W = (w.alloc (.cells cs 9)).drew) (hR : Rd w g P) (hP : P ≤ 1000000) (hcs : cs.toList = l.map (Value.string ·)) (hn : n = l.length) (hl0 : 0 < l.length) (hl : l.length ≤ 1000) (h4 : ∀ t ∈ l, t.size ≤ 4) :
    Calls Tryz.prog 39 #[.pointer (some ⟨g, 0, none⟩), .slice (some ⟨w.heap.size, 0, none⟩) n n] W fun r w' => DrawnT w w' g P r := by
  have hgl := hR.lt
  subst hn
  have hb : Below w.heap.size w (w.alloc (.cells cs 9)) := (Below.refl _ _).alloc (Nat.le_refl _) _
  have hN := texts_new w cs 9 l hcs
  rcases hW with rfl | rfl
  · refine (rd_of _ g w.heap.size P l (rd_alloc hR _) hP hl0 hl hN h4 (by omega) (by simp)).mono ?_
    rintro r w' ⟨t, h1, h2, h3, h5⟩
    exact ⟨t, h1, h2, h3, ow_grown_trans (ow_but_below _ hb) h5⟩
  · refine (rd_of _ g w.heap.size P l (hR.keep hb.drew) hP hl0 hl hN h4 (by omega) (by show w.heap.size < (w.alloc _).heap.size; simp)).mono ?_
    rintro r w' ⟨t, h1, h2, h3, h5⟩
    exact ⟨t, h1, h2, h3, ow_grown_trans (ow_but_below _ hb.drew) h5⟩
/-- How a text is bent. -/
def BentT (w w' : World) (g P : Nat) (r : Ending) : Prop := ∃ t : ByteArray, t.size ≤ 30000 ∧ r = .returned (.string t) ∧ Rd w' g (P + 3) ∧ w.grownBy w' (some g)
def bend0 : List ByteArray := [⟨#[48]⟩, ⟨#[120]⟩, ⟨#[40]⟩, ⟨#[41]⟩, ⟨#[32]⟩, ⟨#[45]⟩, ⟨#[62]⟩, ⟨#[10]⟩, ⟨#[61]⟩]
def bend2 : List ByteArray := [⟨#[120]⟩, ⟨#[32]⟩, ⟨#[41]⟩, ⟨#[10]⟩]
def bend3 : List ByteArray := [⟨#[120]⟩, ⟨#[32]⟩, ⟨#[40]⟩, ⟨#[105, 110, 32]⟩, ⟨#[49]⟩]
theorem bend_four : (∀ t ∈ bend0, t.size ≤ 4) ∧ (∀ t ∈ bend2, t.size ≤ 4) ∧ (∀ t ∈ bend3, t.size ≤ 4) := by
  refine ⟨?_, ?_, ?_⟩ <;> (intro t ht; simp [bend0, bend2, bend3] at ht; rcases ht with rfl | rfl | rfl | rfl | rfl | rfl | rfl | rfl | rfl <;> simp [ByteArray.size]) 
set_option maxRecDepth 100000 in
set_option maxHeartbeats 2000000 in
theorem rd_bent (w : World) (g P : Nat) (s : ByteArray) (hR : Rd w g P) (hP : P ≤ 900000) (hs : s.size ≤ 10000) :
    Calls Tryz.prog 15 #[.pointer (some ⟨g, 0, none⟩), .string s] w fun r w' => BentT w w' g P r := by
  have hgl := hR.lt
  have wr1 : IntKind.i64.wrap ((s.size : Int) + 1) = (s.size : Int) + 1 := by simp [IntKind.wrap, IntKind.bits, IntKind.signed]; omega
  obtain ⟨b0, b2, b3⟩ := bend_four
  go_enter Tryz.func15, Tryz.ntmps15
  go_upto_region 2 with (go_at_call 14; refine (rd_pickZ _ g P _ hR (by omega) (by omega) (by omega)).mono ?_; rintro r w2 ⟨k, rfl, hk, hR2, hg2⟩)
  have hks : k ≤ s.size := by omega
  have hki : (k : Int) ≤ (s.size : Int) := by omega
  have hk0 : (0 : Int) ≤ (k : Int) := by omega
  clear hk wr1
  go_upto_region 3 with (go_at_call 14; refine (rd_pickZ _ g (P + 1) _ hR2 (by omega) (by omega) (by omega)).mono ?_; rintro r w3 ⟨y, rfl, hy, hR3, hg3⟩)
  have hg : w.grownBy w3 (some g) := ow_grown_trans hg2 hg3
  clear hR hR2 hg2 hg3
  have hfin : ∀ (t : ByteArray), t.size ≤ 30000 → BentT w w3 g P (.returned (.string t)) := fun t ht => ⟨t, ht, rfl, hR3.mono (by omega), hg⟩
  have hfin2 : ∀ (w4 : World) (t : ByteArray), t.size ≤ 30000 → Rd w4 g (P + 1 + 1 + 1) → w3.grownBy w4 (some g) → BentT w w4 g P (.returned (.string t)) := fun w4 t ht hr hgr => ⟨t, ht, rfl, hr, ow_grown_trans hg hgr⟩
  have hx1 : (s.extract 0 k).size = k := by rw [ByteArray.size_extract]; omega
  have hyc : y = 0 ∨ y = 1 ∨ y = 2 ∨ y = 3 ∨ 4 ≤ y := by omega
  rcases hyc with rfl | rfl | rfl | rfl | hy4
  · by_cases hlt : k < s.size
    · have hlti : (k : Int) < (s.size : Int) := by omega
      have hk1 : (k : Int) + 1 ≤ (s.size : Int) := by omega
      have hk2 : (0 : Int) ≤ (k : Int) + 1 := by omega
      have wr2 : IntKind.i64.wrap ((k : Int) + 1) = (k : Int) + 1 := by simp [IntKind.wrap, IntKind.bits, IntKind.signed]; omega
      have hof := fun W hW => rd_ofN w3 W g (P + 1 + 1) 9 bend0 #[.string ⟨#[48]⟩, .string ⟨#[120]⟩, .string ⟨#[40]⟩, .string ⟨#[41]⟩, .string ⟨#[32]⟩, .string ⟨#[45]⟩, .string ⟨#[62]⟩, .string ⟨#[10]⟩, .string ⟨#[61]⟩] hW hR3 (by omega) rfl rfl (by decide) (by decide) b0
      have hx2 : (s.extract (k + 1) s.size).size = s.size - (k + 1) := by rw [ByteArray.size_extract]; omega
      go_upto_region 5 with fail
      go_region_held3 (fun _ => True) (trivial) (first | (go_at_call 39; refine (hof _ (by first | exact Or.inl rfl | exact Or.inr rfl)).mono ?_; rintro r w4 ⟨t, ht4, rfl, hR4, hg4⟩; have hj1 : ¬ 9223372036854775807 < k + t.size := (by omega); have hj2 : ¬ 9223372036854775807 < k + t.size + (s.size - (k + 1)) := (by omega)))
      all_goals
        go_wp2_with fail
        go_ret
        exact hfin2 _ _ (by simp only [ByteArray.size_append, hx1, hx2]; omega) hR4 hg4
    · have hlti : ¬ (k : Int) < (s.size : Int) := by omega
      go_wp2_with fail
      go_ret
      exact hfin _ (by omega)
  · go_wp2_with fail
    go_ret
    exact hfin _ (by omega)
  · have hof := fun W hW => rd_ofN w3 W g (P + 1 + 1) 4 bend2 #[.string ⟨#[120]⟩, .string ⟨#[32]⟩, .string ⟨#[41]⟩, .string ⟨#[10]⟩] hW hR3 (by omega) rfl rfl (by decide) (by decide) b2
    go_wp2_with (go_at_call 39; refine (hof _ (by first | exact Or.inl rfl | exact Or.inr rfl)).mono ?_; rintro r w4 ⟨t, ht4, rfl, hR4, hg4⟩; have hj1 : ¬ 9223372036854775807 < s.size + t.size := (by omega))
    go_ret
    exact hfin2 _ _ (by simp only [ByteArray.size_append]; omega) hR4 hg4
  · have hof := fun W hW => rd_ofN w3 W g (P + 1 + 1) 5 bend3 #[.string ⟨#[120]⟩, .string ⟨#[32]⟩, .string ⟨#[40]⟩, .string ⟨#[105, 110, 32]⟩, .string ⟨#[49]⟩] hW hR3 (by omega) rfl rfl (by decide) (by decide) b3
    have hx2 : (s.extract k s.size).size = s.size - k := by rw [ByteArray.size_extract]; omega
    go_upto_region 11 with fail
    go_region_held3 (fun _ => True) (trivial) (first | (go_at_call 39; refine (hof _ (by first | exact Or.inl rfl | exact Or.inr rfl)).mono ?_; rintro r w4 ⟨t, ht4, rfl, hR4, hg4⟩; have hj1 : ¬ 9223372036854775807 < k + t.size := (by omega); have hj2 : ¬ 9223372036854775807 < k + t.size + (s.size - k) := (by omega)))
    all_goals
      go_wp2_with fail
      go_ret
      exact hfin2 _ _ (by simp only [ByteArray.size_append, hx1, hx2]; omega) hR4 hg4
  · have hy0 : ((y : Int) == 0) = false := by simp; omega
    have hy1 : ((y : Int) == 1) = false := by simp; omega
    have hy2 : ((y : Int) == 2) = false := by simp; omega
    have hy3 : ((y : Int) == 3) = false := by simp; omega
    go_wp2_with fail
    go_ret
    exact hfin _ (by omega)
end Go.Proofs.YthikfinliiaecaaGreatDoor

namespace Go.Proofs.YthikfinliiaecaaGreatDoor
open Go.RowKit Go.Shelf

shelf_lay LaysM.n171 Nm 171 at Tryz as lays171

/-- A number in figures. -/
def decZ (n : Int) : ByteArray := ⟨(Lib.itoa n).toArray⟩
def decN (n : Nat) : ByteArray := ⟨(Lib.decDigits n).toArray⟩
/-- The library's table of powers is as it is laid. -/
abbrev PowTab (w : World) : Prop := Lib.TabIs Tryz.prog w "internal/strconv.uint64pow10" .u64 Lib.pow10Tab
theorem PowTab.keep {w w' : World} (h : PowTab w) (hb : Below w.heap.size w w') : PowTab w' := Lib.tabBelow_of_tabIs h w' hb
theorem impl_Itoa (n : Int) (h0 : -9223372036854775808 ≤ n) (h1 : n ≤ 9223372036854775807) (w : World) (hT : PowTab w) : Calls Tryz.prog 62 #[.int .i64 n] w fun e w' => e = .returned (.string (decZ n)) ∧ Below w.heap.size w w' :=
  (Any.strconv_Itoa lays171 n h0 h1 w hT).mono fun e w' ⟨h, k, os, hw⟩ => ⟨h, by rw [hw]; exact Lib.below_grow _ _ (Nat.le_refl _) k os⟩
theorem decZ_nat (n : Nat) : decZ n = decN n := by rw [decZ, Lib.itoa_nonneg]; rfl
theorem dec_len (k : Nat) : ∀ n : Nat, n < 10 ^ (k + 1) → (Lib.decDigits n).length ≤ k + 1 := by
  induction k with
  | zero => intro n hn; rw [Lib.decDigits_one (by simpa using hn)]; simp
  | succ k ih =>
    intro n hn
    rw [Lib.decDigits]
    split
    · simp
    · have := ih (n / 10) (by rw [Nat.pow_succ] at hn; omega)
      simp; omega
theorem decN_size (n : Nat) (hn : n ≤ 9223372036854775807) : (decN n).size ≤ 19 := by
  have := dec_len 18 n (by omega)
  exact this
theorem decZ_size (n : Int) (h0 : -9223372036854775807 ≤ n) (h1 : n ≤ 9223372036854775807) : (decZ n).size ≤ 20 := by
  have h : (decZ n).size = (Lib.itoa n).length := rfl
  rw [h, Lib.itoa]
  split
  · have := dec_len 18 n.natAbs (by omega)
    simp; omega
  · have := dec_len 18 n.toNat (by omega)
    omega

theorem ht_cell_new0 (w : World) (v : Value) (t : TypeId) (n : Nat) (hn : n = w.heap.size) : (w.alloc (.cells #[v] t)).cell? ⟨n, 0, none⟩ = some v := by subst hn; rw [cell_of_row _ _ _ _ _ _ (heap_alloc_new w _)]; rfl
theorem ht_cell_later0 {w w2 : World} {v : Value} {t : TypeId} (hb : Below (w.alloc (.cells #[v] t)).heap.size (w.alloc (.cells #[v] t)) w2) : w2.cell? ⟨w.heap.size, 0, none⟩ = some v := by rw [hb.cell (by simp)]; exact ht_cell_new0 _ _ _ _ rfl
theorem ht_conv_one (w : World) (c : UInt8) (z : Int) (n : Nat) (hz : z = (c.toNat : Int)) (hn : n = w.heap.size) : (convert 22 9 (.slice (some ⟨n, 0, none⟩) 1 1)).run Tryz.prog (w.alloc (.cells #[.int .u8 z] 5)) = .ok (.string ⟨#[c]⟩) (w.alloc (.cells #[.int .u8 z] 5)) := by
  subst hn hz
  refine run_convert_bytes_back (P := Tryz.prog) _ 22 9 5 ⟨w.heap.size, 0, none⟩ 1 [c] Tryz.underlying22 Tryz.underlying5 Tryz.underlying9 ?_
  intro j hj
  obtain rfl : j = 0 := by simpa using hj
  rw [Addr.add_mid]; exact ht_cell_new0 _ _ _ _ rfl

theorem ht_run_conv (w : World) (c : UInt8) (z : Int) (n : Nat) (hz : z = (c.toNat : Int)) (hc : w.cell? ⟨n, 0, none⟩ = some (.int .u8 z)) : (convert 22 9 (.slice (some ⟨n, 0, none⟩) 1 1)).run Tryz.prog w = .ok (.string ⟨#[c]⟩) w := by
  subst hz
  refine run_convert_bytes_back (P := Tryz.prog) _ 22 9 5 ⟨n, 0, none⟩ 1 [c] Tryz.underlying22 Tryz.underlying5 Tryz.underlying9 ?_
  intro j hj
  obtain rfl : j = 0 := by simpa using hj
  rw [Addr.add_mid]; exact hc
set_option maxRecDepth 100000 in
theorem ht_dec_low (n : Nat) (hn : n < 10) (w : World) : Calls Tryz.prog 59 #[.int .i64 n] w fun r w' => r = .returned (.string (decN n)) ∧ Below w.heap.size w w' := by
  obtain ⟨c, hc⟩ : ∃ c : UInt8, c = UInt8.ofNat (48 + n) := ⟨_, rfl⟩
  have hcv := ht_conv_one w c (48 + n) w.heap.size (by rw [hc]; simp; omega) rfl
  have HD : Hid (decN n = ⟨#[c]⟩) := by show _ = _; rw [decN, Lib.decDigits_one hn, hc]
  clear hc
  go_enter Tryz.func59, Tryz.ntmps59
  go_wp2_with fail
  go_ret
  exact ⟨by rw [HD.out]; rfl, (Below.refl _ _).alloc (Nat.le_refl _) _⟩
theorem ht_cell_later1 {w w2 : World} {v : Value} {t : TypeId} (hb : Below (w.alloc (.cells #[v] t)).drew.heap.size (w.alloc (.cells #[v] t)).drew w2) : w2.cell? ⟨w.heap.size, 0, none⟩ = some v := by
  rw [hb.cell (by simp [World.drew])]; exact ht_cell_new0 _ _ _ _ rfl

theorem ht_dec_frame1 {w w2 : World} {o : Obj} (hb : Below w.drew.heap.size w.drew w2) : Below w.heap.size w (w2.alloc o) := below_all (Below.trans (B := w.heap.size) (Below.refl _ w).drew hb)
where below_all {w w1 : World} {o : Obj} (h : Below w.heap.size w w1) : Below w.heap.size w (w1.alloc o) := h.alloc h.size o
theorem ht_dec_frame2 {w w2 : World} {o : Obj} (hb : Below (w.alloc o).drew.heap.size (w.alloc o).drew w2) : Below w.heap.size w w2 :=
  Below.trans (((Below.refl w.heap.size w).alloc (Nat.le_refl _) o).drew) (hb.mono (by simp [World.drew]))

set_option maxRecDepth 100000 in
set_option maxHeartbeats 400000 in
theorem ht_l1Dec (n : Nat) : n ≤ 9223372036854775807 → ∀ w : World, Calls Tryz.prog 59 #[.int .i64 n] w fun r w' => r = .returned (.string (decN n)) ∧ Below w.heap.size w w' := by
  induction n using Nat.strongRecOn with
  | _ n ih =>
  intro hn w
  by_cases h10 : n < 10
  · exact ht_dec_low n h10 w
  · obtain ⟨m, hm⟩ : ∃ m, m = n / 10 := ⟨_, rfl⟩
    obtain ⟨q, hq⟩ : ∃ q, q = n % 10 := ⟨_, rfl⟩
    obtain ⟨c, hc⟩ : ∃ c : UInt8, c = UInt8.ofNat (48 + q) := ⟨_, rfl⟩
    have HD : Hid (decN n = decN m ++ ⟨#[c]⟩) := by
      show _ = _
      rw [hm, decN, Lib.decDigits, dif_neg h10, hc, hq]
      apply ByteArray.ext
      simp [decN, ByteArray.data_append]
    have hq9 : q < 10 := by omega
    have hm9 : m < n := by omega
    have hge : 10 ≤ n := by omega
    have hwr : IntKind.i64.wrap ((n : Int) / 10) = (m : Int) := by
      rw [show (n : Int) / 10 = (m : Int) by omega, IntKind.wrap_i64]; omega
    have hwm : IntKind.i64.wrap ((n : Int) % 10) = (q : Int) := by
      rw [show (n : Int) % 10 = (q : Int) by omega, IntKind.wrap_i64]; omega
    have hwq : (n : Int) % 10 = (q : Int) := by omega
    have hzc : (48 : Int) + q = (c.toNat : Int) := by rw [hc]; simp; omega
    have hZ : IntKind.u8.wrap (IntKind.i64.wrap (48 + (n : Int).tmod 10)) = (c.toNat : Int) := by
      rw [Int.tmod_eq_emod_of_nonneg (by omega), hwq, IntKind.wrap_i64, show ((48 : Int) + q + 9223372036854775808) % 18446744073709551616 - 9223372036854775808 = 48 + q by omega, hzc]
      simp [IntKind.wrap, IntKind.bits, IntKind.signed]
      have := c.toNat_lt; omega
    have hcv : ∀ W : World, _ := fun W => ht_conv_one W c (c.toNat : Int) W.heap.size rfl rfl
    have hcv3 : ∀ W : World, _ := fun W => ht_run_conv (W.alloc (.cells #[.int .u8 (c.toNat : Int)] 5)).drew c (c.toNat : Int) W.heap.size rfl (ht_cell_new0 W (.int .u8 (c.toNat : Int)) 5 W.heap.size rfl)
    have hlow : ∀ (z : Int), z = (m : Int) → ∀ w : World, Calls Tryz.prog 59 #[.int .i64 z] w fun r w' => r = .returned (.string (decN m)) ∧ Below w.heap.size w w' := fun z hz w => by subst hz; exact ih m hm9 (by omega) w
    have hds : (decN m).size ≤ 19 := decN_size m (by omega)
    clear hm hq hc h10 ih
    go_enter Tryz.func59, Tryz.ntmps59
    go_wp2_with fail
    go_region_with (go_at_call 59; refine (hlow _ (by first | rfl | exact hwr) _).mono ?_; rintro r w2 ⟨rfl, hb2⟩; first | (have hcv2 := ht_run_conv w2 c (c.toNat : Int) _ rfl (ht_cell_later1 hb2)) | (have hcv2 := ht_run_conv w2 c (c.toNat : Int) _ rfl (ht_cell_later0 hb2)) | skip)
    all_goals
      go_wp2_with fail
      go_ret
      exact ⟨by rw [HD.out]; rfl, by first | exact ht_dec_frame2 hb2 | exact ht_dec_frame1 hb2⟩
end Go.Proofs.YthikfinliiaecaaGreatDoor

