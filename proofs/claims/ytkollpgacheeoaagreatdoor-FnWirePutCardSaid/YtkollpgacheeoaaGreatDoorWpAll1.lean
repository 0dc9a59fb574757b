/-
  Numbers in figures: the library's strconv.Itoa, and the specification's l1Dec, of every number.
  The specification's l1Dec of every number; texts as lists of bytes.
  Figures: what l1Num and strconv.Atoi make of a number's own figures. Mathematics; no program is named here.
  A blank in a text, a newline behind it. Mathematics; no program is named here.
-/
import Derived.Test.YtkollpgacheeoaaGreatDoorRows
import Derived.Test.YtkollpgacheeoaaGreatDoorWpAll0
import Derived.WalkKit
import Derived.WalkSpells
import Derived.WalkLawsBesides
import Derived.Deep.RegionWith
import Derived.Deep.RegionHeld3
import Derived.Lib.AppendIntMem
import Derived.Shelf.Strconv.Itoa3
import Derived.Shelf.Lay
import Derived.Ground.NamesProg
import Derived.Lib.AtoiTie
import Derived.Lib.Strings
import Derived.Lib.CutLaws
namespace Go.Proofs.YtkollpgacheeoaaGreatDoor
open Go.RowKit Go.Shelf

shelf_lay LaysM.n171 Nm 171 at Tryz as lays171

/-- A number in figures. -/
def decZ (n : Int) : ByteArray := ⟨(Lib.itoa n).toArray⟩
def decN (n : Nat) : ByteArray := ⟨(Lib.decDigits n).toArray⟩
/-- The library's table of powers is as it is laid. -/
abbrev PowTab (w : World) : Prop := Lib.TabIs Tryz.prog w "internal/strconv.uint64pow10" .u64 Lib.pow10Tab
theorem PowTab.keep {w w' : World} (h : PowTab w) (hb : Below w.heap.size w w') : PowTab w' := Lib.tabBelow_of_tabIs h w' hb
theorem impl_Itoa (n : Int) (h0 : -9223372036854775808 ≤ n) (h1 : n ≤ 9223372036854775807) (w : World) (hT : PowTab w) : Calls Tryz.prog 35 #[.int .i64 n] w fun e w' => e = .returned (.string (decZ n)) ∧ Below w.heap.size w w' :=
  (Any.strconv_Itoa lays171 n h0 h1 w hT).mono fun e w' ⟨h, k, os, hw⟩ => ⟨h, by rw [hw]; exact Lib.below_grow _ _ (Nat.le_refl _) k os⟩
theorem decZ_nat (n : Nat) : decZ n = decN n := by rw [decZ, Lib.itoa_nonneg]; rfl
theorem dec_len (k : Nat) : ∀ n : Nat, n < 10 ^ (k + 1) → (Lib.decDigits n).length ≤ k + 1 := by
  induction k with
  | zero => intro n hn; rw [Lib.decDigits_one (by simpa using hn)]; simp
  | succ k ih =>
    intro n hn
    rw [Lib.decDigits]
    split
    · simp
    · have := ih (n / 10) (by rw [Nat.pow_succ] at hn; omega)
      simp; omega
theorem decN_size (n : Nat) (hn : n ≤ 9223372036854775807) : (decN n).size ≤ 19 := by
  have := dec_len 18 n (by omega)
  exact this
theorem decZ_size (n : Int) (h0 : -9223372036854775807 ≤ n) (h1 : n ≤ 9223372036854775807) : (decZ n).size ≤ 20 := by
  have h : (decZ n).size = (Lib.itoa n).length := rfl
  rw [h, Lib.itoa]
  split
  · have := dec_len 18 n.natAbs (by omega)
    simp; omega
  · have := dec_len 18 n.toNat (by omega)
    omega

theorem ht_cell_new0 (w : World) (v : Value) (t : TypeId) (n : Nat) (hn : n = w.heap.size) : (w.alloc (.cells #[v] t)).cell? ⟨n, 0, none⟩ = some v := by subst hn; rw [cell_of_row _ _ _ _ _ _ (heap_alloc_new w _)]; rfl
theorem ht_cell_later0 {w w2 : World} {v : Value} {t : TypeId} (hb : Below (w.alloc (.cells #[v] t)).heap.size (w.alloc (.cells #[v] t)) w2) : w2.cell? ⟨w.heap.size, 0, none⟩ = some v := by rw [hb.cell (by simp)]; exact ht_cell_new0 _ _ _ _ rfl
theorem ht_conv_one (w : World) (c : UInt8) (z : Int) (n : Nat) (hz : z = (c.toNat : Int)) (hn : n = w.heap.size) : (convert 22 9 (.slice (some ⟨n, 0, none⟩) 1 1)).run Tryz.prog (w.alloc (.cells #[.int .u8 z] 5)) = .ok (.string ⟨#[c]⟩) (w.alloc (.cells #[.int .u8 z] 5)) := by
  subst hn hz
  refine run_convert_bytes_back (P := Tryz.prog) _ 22 9 5 ⟨w.heap.size, 0, none⟩ 1 [c] Tryz.underlying22 Tryz.underlying5 Tryz.underlying9 ?_
  intro j hj
  obtain rfl : j = 0 := by simpa using hj
  rw [Addr.add_mid]; exact ht_cell_new0 _ _ _ _ rfl

theorem ht_run_conv (w : World) (c : UInt8) (z : Int) (n : Nat) (hz : z = (c.toNat : Int)) (hc : w.cell? ⟨n, 0, none⟩ = some (.int .u8 z)) : (convert 22 9 (.slice (some ⟨n, 0, none⟩) 1 1)).run Tryz.prog w = .ok (.string ⟨#[c]⟩) w := by
  subst hz
  refine run_convert_bytes_back (P := Tryz.prog) _ 22 9 5 ⟨n, 0, none⟩ 1 [c] Tryz.underlying22 Tryz.underlying5 Tryz.underlying9 ?_
  intro j hj
  obtain rfl : j = 0 := by simpa using hj
  rw [Addr.add_mid]; exact hc
set_option maxRecDepth 100000 in
theorem ht_dec_low (n : Nat) (hn : n < 10) (w : World) : Calls Tryz.prog 45 #[.int .i64 n] w fun r w' => r = .returned (.string (decN n)) ∧ Below w.heap.size w w' := by
  obtain ⟨c, hc⟩ : ∃ c : UInt8, c = UInt8.ofNat (48 + n) := ⟨_, rfl⟩
  have hcv := ht_conv_one w c (48 + n) w.heap.size (by rw [hc]; simp; omega) rfl
  have HD : Hid (decN n = ⟨#[c]⟩) := by show _ = _; rw [decN, Lib.decDigits_one hn, hc]
  clear hc
  go_enter Tryz.func45, Tryz.ntmps45
  go_wp2_with fail
  go_ret
  exact ⟨by rw [HD.out]; rfl, (Below.refl _ _).alloc (Nat.le_refl _) _⟩
theorem ht_cell_later1 {w w2 : World} {v : Value} {t : TypeId} (hb : Below (w.alloc (.cells #[v] t)).drew.heap.size (w.alloc (.cells #[v] t)).drew w2) : w2.cell? ⟨w.heap.size, 0, none⟩ = some v := by
  rw [hb.cell (by simp [World.drew])]; exact ht_cell_new0 _ _ _ _ rfl

theorem ht_dec_frame1 {w w2 : World} {o : Obj} (hb : Below w.drew.heap.size w.drew w2) : Below w.heap.size w (w2.alloc o) := below_all (Below.trans (B := w.heap.size) (Below.refl _ w).drew hb)
where below_all {w w1 : World} {o : Obj} (h : Below w.heap.size w w1) : Below w.heap.size w (w1.alloc o) := h.alloc h.size o
theorem ht_dec_frame2 {w w2 : World} {o : Obj} (hb : Below (w.alloc o).drew.heap.size (w.alloc o).drew w2) : Below w.heap.size w w2 :=
  Below.trans (((Below.refl w.heap.size w).alloc (Nat.le_refl _) o).drew) (hb.mono (by simp [World.drew]))

set_option maxRecDepth 100000 in
set_option maxHeartbeats 400000 in
theorem ht_l1Dec (n : Nat) : n ≤ 9223372036854775807 → ∀ w : World, Calls Tryz.prog 45 #[.int .i64 n] w fun r w' => r = .returned (.string (decN n)) ∧ Below w.heap.size w w' := by
  induction n using Nat.strongRecOn with
  | _ n ih =>
  intro hn w
  by_cases h10 : n < 10
  · exact ht_dec_low n h10 w
  · obtain ⟨m, hm⟩ : ∃ m, m = n / 10 := ⟨_, rfl⟩
    obtain ⟨q, hq⟩ : ∃ q, q = n % 10 := ⟨_, rfl⟩
    obtain ⟨c, hc⟩ : ∃ c : UInt8, c = UInt8.ofNat (48 + q) := ⟨_, rfl⟩
    have HD : Hid (decN n = decN m ++ ⟨#[c]⟩) := by
      show _ = _
      rw [hm, decN, Lib.decDigits, dif_neg h10, hc, hq]
      apply ByteArray.ext
      simp [decN, ByteArray.data_append]
    have hq9 : q < 10 := by omega
    have hm9 : m < n := by omega
    have hge : 10 ≤ n := by omega
    have hwr : IntKind.i64.wrap ((n : Int) / 10) = (m : Int) := by
      rw [show (n : Int) / 10 = (m : Int) by omega, IntKind.wrap_i64]; omega
    have hwm : IntKind.i64.wrap ((n : Int) % 10) = (q : Int) := by
      rw [show (n : Int) % 10 = (q : Int) by omega, IntKind.wrap_i64]; omega
    have hwq : (n : Int) % 10 = (q : Int) := by omega
    have hzc : (48 : Int) + q = (c.toNat : Int) := by rw [hc]; simp; omega
    have hZ : IntKind.u8.wrap (IntKind.i64.wrap (48 + (n : Int).tmod 10)) = (c.toNat : Int) := by
      rw [Int.tmod_eq_emod_of_nonneg (by omega), hwq, IntKind.wrap_i64, show ((48 : Int) + q + 9223372036854775808) % 18446744073709551616 - 9223372036854775808 = 48 + q by omega, hzc]
      simp [IntKind.wrap, IntKind.bits, IntKind.signed]
      have := c.toNat_lt; omega
    have hcv : ∀ W : World, _ := fun W => ht_conv_one W c (c.toNat : Int) W.heap.size rfl rfl
    have hcv3 : ∀ W : World, _ := fun W => ht_run_conv (W.alloc (.cells #[.int .u8 (c.toNat : Int)] 5)).drew c (c.toNat : Int) W.heap.size rfl (ht_cell_new0 W (.int .u8 (c.toNat : Int)) 5 W.heap.size rfl)
    have hlow : ∀ (z : Int), z = (m : Int) → ∀ w : World, Calls Tryz.prog 45 #[.int .i64 z] w fun r w' => r = .returned (.string (decN m)) ∧ Below w.heap.size w w' := fun z hz w => by subst hz; exact ih m hm9 (by omega) w
    have hds : (decN m).size ≤ 19 := decN_size m (by omega)
    clear hm hq hc h10 ih
    go_enter Tryz.func45, Tryz.ntmps45
    go_wp2_with fail
    go_region_with (go_at_call 45; refine (hlow _ (by first | rfl | exact hwr) _).mono ?_; rintro r w2 ⟨rfl, hb2⟩; first | (have hcv2 := ht_run_conv w2 c (c.toNat : Int) _ rfl (ht_cell_later1 hb2)) | (have hcv2 := ht_run_conv w2 c (c.toNat : Int) _ rfl (ht_cell_later0 hb2)) | skip)
    all_goals
      go_wp2_with fail
      go_ret
      exact ⟨by rw [HD.out]; rfl, by first | exact ht_dec_frame2 hb2 | exact ht_dec_frame1 hb2⟩
end Go.Proofs.YtkollpgacheeoaaGreatDoor

namespace Go.Proofs.YtkollpgacheeoaaGreatDoor
open Go.RowKit

/-- A number of 64 bits. -/
abbrev In64 (n : Int) : Prop := -9223372036854775808 ≤ n ∧ n ≤ 9223372036854775807
/-- A text out of its bytes. -/
def bx (l : List UInt8) : ByteArray := ⟨l.toArray⟩
theorem bx_app (a b : List UInt8) : bx a ++ bx b = bx (a ++ b) := by
  apply ByteArray.ext
  simp [bx, ByteArray.data_append]
theorem bx_size (a : List UInt8) : (bx a).size = a.length := by simp [bx, ByteArray.size]
theorem bx_dec (n : Int) : decZ n = bx (Lib.itoa n) := rfl
theorem itoa_len (n : Int) (h : In64 n) : (Lib.itoa n).length ≤ 20 := by
  rw [Lib.itoa]
  split
  · have := dec_len 18 n.natAbs (by omega)
    simp; omega
  · have := dec_len 18 n.toNat (by omega)
    omega

set_option maxHeartbeats 400000 in
theorem dec_all (n : Int) (h : In64 n) (w : World) : Calls Tryz.prog 45 #[.int .i64 n] w fun r w' => r = .returned (.string (bx (Lib.itoa n))) ∧ Below w.heap.size w w' := by
  rw [← bx_dec]
  by_cases hn : 0 ≤ n
  · obtain ⟨i, rfl⟩ := Int.eq_ofNat_of_zero_le hn
    rw [decZ_nat]
    exact ht_l1Dec i (by omega) w
  · by_cases hm : n = -9223372036854775808
    · subst hm
      have hD : decZ (-9223372036854775808) = ⟨#[45, 57, 50, 50, 51, 51, 55, 50, 48, 51, 54, 56, 53, 52, 55, 55, 53, 56, 48, 56]⟩ := by kernel_rfl
      rw [hD]
      go_enter Tryz.func45, Tryz.ntmps45
      go_wp2_with fail
      go_ret
      exact ⟨rfl, Below.refl _ _⟩
    obtain ⟨i, hi⟩ : ∃ i : Nat, n = -(i : Int) := ⟨n.natAbs, by omega⟩
    subst hi
    have hD : decZ (-(i : Int)) = ⟨#[45]⟩ ++ decN i := by
      rw [decZ, Lib.itoa_neg i (by omega)]
      apply ByteArray.ext
      simp [decN, ByteArray.data_append]
    have hs := decN_size i (by omega)
    have hL : ∀ (z : Int) (w' : World), z = i → Calls Tryz.prog 45 #[.int .i64 z] w' fun r w2 => r = .returned (.string (decN i)) ∧ Below w'.heap.size w' w2 := fun z w' hz => by subst hz; exact ht_l1Dec i (by omega) w'
    rw [hD]
    go_enter Tryz.func45, Tryz.ntmps45
    go_wp2_with (go_at_call 45; refine (hL _ _ (by first | rfl | omega | (simp; done) | (rw [IntKind.wrap_i64]; omega))).mono ?_; rintro r w2 ⟨rfl, hb2⟩)
    go_ret
    exact ⟨rfl, hb2⟩
end Go.Proofs.YtkollpgacheeoaaGreatDoor

namespace Go.Proofs.YtkollpgacheeoaaGreatDoor

def figB (c : UInt8) : Bool := decide (48 ≤ c.toNat ∧ c.toNat ≤ 57)
def numF : Int → List UInt8 → Int
  | acc, [] => acc
  | acc, c :: r => numF (acc * 10 + ((c.toNat : Int) - 48)) r
/-- The number that figures are; -1 if they are none, more than six, or have noughts ahead. -/
def numM (d : List UInt8) : Int := if d.all figB = true ∧ d.length ≤ 6 ∧ d ≠ [] ∧ ¬ (1 < d.length ∧ d.head? = some 48) then numF 0 d else -1
theorem numF_app : ∀ (a b : List UInt8) (acc : Int), numF acc (a ++ b) = numF (numF acc a) b
  | [], _, _ => rfl
  | c :: a, b, acc => by rw [List.cons_append, numF, numF, numF_app a b]
theorem fig_nat (k : Nat) (h : k < 10) : (UInt8.ofNat (48 + k)).toNat = 48 + k := by
  rw [UInt8.toNat_ofNat']
  omega
theorem dec_figs (n : Nat) : (Lib.decDigits n).all figB = true ∧ numF 0 (Lib.decDigits n) = (n : Int) ∧ Lib.decDigits n ≠ [] ∧ (1 ≤ n → (Lib.decDigits n).head? ≠ some 48) := by
  induction n using Nat.strongRecOn with
  | _ n ih =>
    rw [Lib.decDigits]
    split
    · rename_i h
      have hf := fig_nat n h
      refine ⟨by simp [figB]; omega, ?_, by simp, fun h1 => ?_⟩
      · show 0 * 10 + (((UInt8.ofNat (48 + n)).toNat : Int) - 48) = _
        rw [hf]; omega
      · simp only [List.head?_cons, ne_eq, Option.some.injEq]
        intro e
        have := congrArg UInt8.toNat e
        rw [hf] at this
        simp at this
        omega
    · rename_i h
      obtain ⟨h1, h2, h3, h4⟩ := ih (n / 10) (by omega)
      have hf := fig_nat (n % 10) (by omega)
      refine ⟨?_, ?_, by simp, fun _ => ?_⟩
      · rw [List.all_append, h1]
        simp [figB]
        omega
      · rw [numF_app, h2]
        show ((n / 10 : Nat) : Int) * 10 + (((UInt8.ofNat (48 + n % 10)).toNat : Int) - 48) = _
        rw [hf]; omega
      · rw [List.head?_append]
        cases hh : (Lib.decDigits (n / 10)).head? with
        | none => exact absurd (List.head?_eq_none_iff.1 hh) h3
        | some c =>
          rw [hh] at h4
          exact h4 (by omega)
theorem dec_from : ∀ (l : List UInt8) (acc : Nat), l.all figB = true → ∃ m : Nat, Lib.decFrom acc l = some m ∧ numF (acc : Int) l = (m : Int)
  | [], acc, _ => ⟨acc, rfl, rfl⟩
  | c :: l, acc, h => by
    rw [List.all_cons, Bool.and_eq_true] at h
    have hc := of_decide_eq_true h.1
    obtain ⟨m, h1, h2⟩ := dec_from l (acc * 10 + (c.toNat - 48)) h.2
    refine ⟨m, ?_, ?_⟩
    · rw [Lib.decFrom, Lib.digitVal, if_pos hc]
      exact h1
    · rw [numF, ← h2]
      congr 1
      omega
/-- A number below a million is read from its figures by the one and the other. -/
theorem num_dec (n : Nat) (h : n ≤ 999999) : numM (Lib.decDigits n) = (n : Int) ∧ Lib.atoiAll (Lib.decDigits n) = .ok (n : Int) ∧ (10 : UInt8) ∉ Lib.decDigits n ∧ (32 : UInt8) ∉ Lib.decDigits n := by
  obtain ⟨h1, h2, h3, h4⟩ := dec_figs n
  have hl := dec_len 5 n (by omega)
  have hfig : ∀ c ∈ Lib.decDigits n, 48 ≤ c.toNat ∧ c.toNat ≤ 57 := fun c hc => of_decide_eq_true (List.all_eq_true.1 h1 c hc)
  refine ⟨?_, ?_, fun hm => by have := hfig _ hm; simp at this, fun hm => by have := hfig _ hm; simp at this⟩
  · unfold numM
    rw [if_pos, h2]
    refine ⟨h1, by omega, h3, fun ⟨ha, hb⟩ => ?_⟩
    refine h4 ?_ hb
    apply Decidable.byContradiction
    intro hn
    have : n = 0 := by omega
    subst this
    simp [Lib.decDigits] at ha
  · rw [Lib.atoiAll_short _ (by omega)]
    obtain ⟨m, h5, h6⟩ := dec_from _ 0 h1
    have hm : m = n := by
      have : numF ((0 : Nat) : Int) (Lib.decDigits n) = (n : Int) := h2
      omega
    subst hm
    cases hd : Lib.decDigits m with
    | nil => exact absurd hd h3
    | cons c r =>
      have hc := hfig c (by rw [hd]; simp)
      have hc5 : (c == 45) = false := by
        rw [beq_eq_false_iff_ne]
        rintro rfl
        simp at hc
      have hc3 : (c == 43) = false := by
        rw [beq_eq_false_iff_ne]
        rintro rfl
        simp at hc
      rw [hd] at h5
      rw [Lib.atoi, hc5, hc3]
      show Lib.NumEnd.ofOption ((Lib.decNat (c :: r)).map _) = _
      have e : Lib.decNat (c :: r) = some m := h5
      rw [e]
      rfl
end Go.Proofs.YtkollpgacheeoaaGreatDoor

namespace Go.Proofs.YtkollpgacheeoaaGreatDoor
open Go.RowKit

theorem itoa_nat {n : Int} (h : 0 ≤ n) : Lib.itoa n = Lib.decDigits n.toNat := by
  rw [← Lib.itoa_nonneg, Int.toNat_of_nonneg h]
theorem trim_word (l : List UInt8) : Lib.trimSuffix (l ++ [10]) [10] = l := by
  unfold Lib.trimSuffix
  have : Lib.hasSuffix (l ++ [10]) [10] = true := by
    unfold Lib.hasSuffix
    rw [List.isSuffixOf_iff_suffix]
    exact ⟨l, rfl⟩
  rw [if_pos this]
  simp
theorem pre_blank (c : UInt8) (l : List UInt8) : ([32] : List UInt8).isPrefixOf (c :: l) = (32 == c) := by
  simp [List.isPrefixOf]
theorem cut_blank : ∀ (p q : List UInt8), (32 : UInt8) ∉ p → Lib.index (p ++ 32 :: q) [32] = (p.length : Int)
  | [], q, _ => by
    rw [List.nil_append, Lib.index, pre_blank]
    rfl
  | c :: p, q, h => by
    have h1 : ¬ ((32 == c) = true) := by
      intro e
      exact h (by rw [beq_iff_eq] at e; rw [e]; simp)
    have h2 := cut_blank p q (fun e => h (by simp [e]))
    rw [List.cons_append, Lib.index, pre_blank, if_neg h1, h2, if_neg (by rw [beq_iff_eq]; omega), List.length_cons]
    omega
theorem no_blank : ∀ (p : List UInt8), (32 : UInt8) ∉ p → Lib.index p [32] = -1
  | [], _ => rfl
  | c :: p, h => by
    have h1 : ¬ ((32 == c) = true) := by
      intro e
      exact h (by rw [beq_iff_eq] at e; rw [e]; simp)
    rw [Lib.index, pre_blank, if_neg h1, no_blank p (fun e => h (by simp [e]))]
    rfl
theorem cutLine_own : ∀ (p q : List UInt8), (10 : UInt8) ∉ p → cutLine (p ++ 10 :: q) = (p ++ [10], q)
  | [], q, _ => rfl
  | c :: p, q, h => by
    rw [List.cons_append, cutLine, if_neg (fun e => h (by simp [e])), cutLine_own p q (fun e => h (by simp [e]))]
    rfl
end Go.Proofs.YtkollpgacheeoaaGreatDoor

