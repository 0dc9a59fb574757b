/-
  The program's wireText: putWord, endLine, putCell.
-/
import Derived.Test.YthikfinliiaecaaGreatDoorFgAll17
import Derived.Test.YthikfinliiaecaaGreatDoorWiBld
import Derived.Deep.RegionHeld3
import Derived.Deep.Cut
namespace Go.Proofs.YthikfinliiaecaaGreatDoor
open Go.RowKit

theorem wi_next {w w2 w3 : World} (h1 : Below w.heap.size w w2) (h2 : Below w2.heap.size w2 w3) : Below w.heap.size w w3 := h1.trans (h2.mono h1.size)
theorem oth_below {b : Nat} {w w' : World} (h : Below w.heap.size w w') : Oth b w w' := fun k o hk _ _ => by
  rw [h.block k (Array.getElem?_eq_some_iff.1 hk).1]
  exact hk
set_option maxHeartbeats 400000 in
theorem wi_truth (b : Bool) (w : World) : Calls Tryz.prog 63 #[.bool b] w fun r w' => r = .returned (.string (bx (if b = true then trueB else falseB))) ∧ w' = w := by
  cases b
  · go_enter Tryz.func63, Tryz.ntmps63
    go_wp2_with fail
    go_ret
    exact ⟨rfl, rfl⟩
  · go_enter Tryz.func63, Tryz.ntmps63
    go_wp2_with fail
    go_ret
    exact ⟨rfl, rfl⟩
theorem pid_bytes (n : Int) : (⟨#[112, 105, 100]⟩ : ByteArray) ++ bx (Lib.itoa n) = bx ([112, 105, 100] ++ Lib.itoa n) := bx_app [112, 105, 100] _
theorem at_bytes (n : Int) : (⟨#[97, 116]⟩ : ByteArray) ++ bx (Lib.itoa n) = bx ([97, 116] ++ Lib.itoa n) := bx_app [97, 116] _

/-- How a writing ends. -/
def Wrote (w w' : World) (B b : Nat) (l : List UInt8) (r : Ending) : Prop := r = .returned (.tuple #[]) ∧ Wib w' B b l ∧ Below B w w' ∧ Oth b w w'

set_option maxRecDepth 100000 in
set_option maxHeartbeats 4000000 in
theorem impl_putWord (d : Wd) (hd : In64 d.num ∧ (d.tag = 2 → d.num = 0 ∨ d.num = 1)) (w : World) (B b : Nat) (l : List UInt8) (h : Wib w B b l) (hl : l.length ≤ 10000000) (hB : B ≤ w.heap.size) (hT : PowTab w) :
    Calls Tryz.prog 29 #[.pointer (some ⟨b, 0, none⟩), .agg #[.int .i64 d.tag, .int .i64 d.num]] w fun r w' => Wrote w w' B b (l ++ wordT d) r := by
  obtain ⟨t, n⟩ := d
  obtain ⟨hn, h2⟩ := hd
  have hn : In64 n := hn
  have h2 : t = 2 → n = 0 ∨ n = 1 := h2
  have hg := itoa_len n hn
  obtain ⟨W2, hW2⟩ : ∃ W, W = w.alloc (.cells #[.int .i64 t, .int .i64 n] 26) := ⟨_, rfl⟩
  have hw2 : Below w.heap.size w W2 := by rw [hW2]; exact (Below.refl _ _).alloc (Nat.le_refl _) _
  have hz2 : w.heap.size < W2.heap.size := by rw [hW2]; simp
  have hb2 : Below B w W2 := by rw [hW2]; exact (Below.refl _ _).alloc hB _
  have hlt := wib_lt h
  have HI : ∀ w', Below W2.heap.size W2 w' → Calls Tryz.prog 62 #[.int .i64 n] w' fun e w2 => e = .returned (.string (bx (Lib.itoa n))) ∧ Below w'.heap.size w' w2 := fun w' h' => impl_Itoa n hn.1 hn.2 w' (hT.keep (wi_next hw2 h'))
  have HW : ∀ (s : List UInt8), s.length ≤ 100 → ∀ w', Below W2.heap.size W2 w' → Calls Tryz.prog 61 #[.pointer (some ⟨b, 0, none⟩), .string (bx s)] w' fun e w2 => (∃ n, e = .returned (.tuple #[.int .i64 n, .nilIface])) ∧ Wib w2 B b (l ++ s) ∧ Below B w' w2 ∧ Oth b w' w2 := fun s hs w' h' =>
    wi_write w' B b l s (wib_keep (wib_keep h hw2) h') (by omega) (Nat.le_trans hB (Nat.le_trans hw2.size h'.size))
  have HF : ∀ (w' w2 : World) (s : List UInt8), Below W2.heap.size W2 w' → Wib w2 B b s → Below B w' w2 → Oth b w' w2 → Wrote w w2 B b s (.returned (.tuple #[])) := fun w' w2 s h' hw hb ho =>
    ⟨rfl, hw, (hb2.trans (h'.mono (Nat.le_trans hB hw2.size))).trans hb, ((oth_below hw2).trans (oth_below h')).trans ho⟩
  have hn0 : W2.heap[w.heap.size]? = some (.cells #[.int .i64 t, .int .i64 n] 26) := by rw [hW2]; exact heap_alloc_new w _
  have HS : Hid (∀ w' : World, w'.heap[w.heap.size]? = some (.cells #[.int .i64 t, .int .i64 n] 26) → w'.cell? ⟨w.heap.size, 1, none⟩ = some (.int .i64 n)) := fun w' h => by rw [cell_of_row _ _ _ _ _ _ h]; rfl
  have hd1 : Below W2.heap.size W2 W2.drew := (Below.refl _ _).drew
  have hd0 : Below W2.heap.size W2 W2 := Below.refl _ _
  have hn1 : W2.drew.heap[w.heap.size]? = some (.cells #[.int .i64 t, .int .i64 n] 26) := hn0
  have hne : w.heap.size ≠ b := by omega
  clear h hb2 hT hn
  rcases (by omega : t = 1 ∨ t = 2 ∨ t = 3 ∨ t = 4 ∨ (t < 1 ∨ 4 < t)) with rfl | rfl | rfl | rfl | ht
  · rw [show wordT ⟨1, n⟩ = Lib.itoa n from rfl]
    have HW1 := HW (Lib.itoa n) (by omega)
    generalize ht1 : bx (Lib.itoa n) = t1 at *
    have z1 : t1.size ≤ 20 := by rw [← ht1, bx_size]; exact hg
    have q1 : ¬ 9223372036854775807 < 3 + t1.size := by omega
    have q2 : ¬ 9223372036854775807 < 2 + t1.size := by omega
    clear ht1 HW z1 hg h2
    rw [hW2] at HI HW1 hd1 hn0 hn1 hz2
    go_enter Tryz.func29, Tryz.ntmps29
    go_wp2_with fail
    go_region_held3 (fun w' => w'.cell? ⟨w.heap.size, 1, none⟩ = some (.int .i64 n))
      (first | exact HS.out _ hn5 | exact HS.out _ hn3 | exact HS.out _ hn1)
      (first
        | (go_at_call 62; refine (HI _ hd1).mono ?_; rintro e w3 ⟨rfl, hb3⟩; have hd3 := wi_next hd1 hb3; have hn3 := (hd3.block _ hz2).trans hn0)
        | (go_at_call 61; refine (HW1 _ hd3).mono ?_; rintro e w5 ⟨⟨n5, rfl⟩, hB5, hb5, ho5⟩; have hn5 := ho5 _ _ hn3 (by simpa using hne) (by intro c fz e; cases e)))
    go_wp2_with fail
    go_end0
    rw [← hW2] at hd3
    exact HF _ _ _ hd3 hB5 hb5 ho5
  · have hb : bx (if (n == 1) = true then trueB else falseB) = bx (wordT ⟨2, n⟩) := by
      unfold wordT
      rcases h2 rfl with rfl | rfl <;> rfl
    have HW1 := HW (wordT ⟨2, n⟩) (by have := word_len (d := ⟨2, n⟩) (by rcases h2 rfl with h | h <;> (show In64 n; unfold In64; omega)); omega)
    rw [← hb] at HW1
    have HTr : ∀ w', Calls Tryz.prog 63 #[.bool (n == 1)] w' fun r w2 => r = .returned (.string (bx (if (n == 1) = true then trueB else falseB))) ∧ w2 = w' := fun w' => wi_truth (n == 1) w'
    generalize bx (if (n == 1) = true then trueB else falseB) = t1 at HW1 HTr
    clear HW hb hg h2 HI
    rw [hW2] at HW1 hd1 hn0 hn1 hz2
    go_enter Tryz.func29, Tryz.ntmps29
    go_wp2_with fail
    go_region_held3 (fun w' => w'.cell? ⟨w.heap.size, 1, none⟩ = some (.int .i64 n))
      (first | exact HS.out _ hn5 | exact HS.out _ hn1)
      (first
        | (go_at_call 63; refine (HTr _).mono ?_; rintro e w3 ⟨rfl, rfl⟩)
        | (go_at_call 61; refine (HW1 _ hd1).mono ?_; rintro e w5 ⟨⟨n5, rfl⟩, hB5, hb5, ho5⟩; have hn5 := ho5 _ _ hn1 (by simpa using hne) (by intro c fz e; cases e)))
    go_wp2_with fail
    go_end0
    rw [← hW2] at hd1 hb5 ho5
    exact HF _ _ _ hd1 hB5 hb5 ho5
  · rw [show wordT ⟨3, n⟩ = [112, 105, 100] ++ Lib.itoa n from rfl]
    have HW1 := HW ([112, 105, 100] ++ Lib.itoa n) (by simp; omega)
    rw [← pid_bytes] at HW1
    generalize ht1 : bx (Lib.itoa n) = t1 at *
    have z1 : t1.size ≤ 20 := by rw [← ht1, bx_size]; exact hg
    have q1 : ¬ 9223372036854775807 < 3 + t1.size := by omega
    have q2 : ¬ 9223372036854775807 < 2 + t1.size := by omega
    clear ht1 HW z1 hg h2
    rw [hW2] at HI HW1 hd1 hn0 hn1 hz2
    go_enter Tryz.func29, Tryz.ntmps29
    go_wp2_with fail
    go_region_held3 (fun w' => w'.cell? ⟨w.heap.size, 1, none⟩ = some (.int .i64 n))
      (first | exact HS.out _ hn5 | exact HS.out _ hn3 | exact HS.out _ hn1)
      (first
        | (go_at_call 62; refine (HI _ hd1).mono ?_; rintro e w3 ⟨rfl, hb3⟩; have hd3 := wi_next hd1 hb3; have hn3 := (hd3.block _ hz2).trans hn0)
        | (go_at_call 61; refine (HW1 _ hd3).mono ?_; rintro e w5 ⟨⟨n5, rfl⟩, hB5, hb5, ho5⟩; have hn5 := ho5 _ _ hn3 (by simpa using hne) (by intro c fz e; cases e)))
    go_wp2_with fail
    go_end0
    rw [← hW2] at hd3
    exact HF _ _ _ hd3 hB5 hb5 ho5
  · rw [show wordT ⟨4, n⟩ = [97, 116] ++ Lib.itoa n from rfl]
    have HW1 := HW ([97, 116] ++ Lib.itoa n) (by simp; omega)
    rw [← at_bytes] at HW1
    generalize ht1 : bx (Lib.itoa n) = t1 at *
    have z1 : t1.size ≤ 20 := by rw [← ht1, bx_size]; exact hg
    have q1 : ¬ 9223372036854775807 < 3 + t1.size := by omega
    have q2 : ¬ 9223372036854775807 < 2 + t1.size := by omega
    clear ht1 HW z1 hg h2
    rw [hW2] at HI HW1 hd1 hn0 hn1 hz2
    go_enter Tryz.func29, Tryz.ntmps29
    go_wp2_with fail
    go_region_held3 (fun w' => w'.cell? ⟨w.heap.size, 1, none⟩ = some (.int .i64 n))
      (first | exact HS.out _ hn5 | exact HS.out _ hn3 | exact HS.out _ hn1)
      (first
        | (go_at_call 62; refine (HI _ hd1).mono ?_; rintro e w3 ⟨rfl, hb3⟩; have hd3 := wi_next hd1 hb3; have hn3 := (hd3.block _ hz2).trans hn0)
        | (go_at_call 61; refine (HW1 _ hd3).mono ?_; rintro e w5 ⟨⟨n5, rfl⟩, hB5, hb5, ho5⟩; have hn5 := ho5 _ _ hn3 (by simpa using hne) (by intro c fz e; cases e)))
    go_wp2_with fail
    go_end0
    rw [← hW2] at hd3
    exact HF _ _ _ hd3 hB5 hb5 ho5
  · have e0 : wordT ⟨t, n⟩ = [110, 105, 108] := by
      unfold wordT
      show (if t = 1 then _ else if t = 2 then _ else if t = 3 then _ else if t = 4 then _ else _) = _
      rw [if_neg (by omega), if_neg (by omega), if_neg (by omega), if_neg (by omega)]
    rw [e0]
    have HW1 : ∀ w', Below W2.heap.size W2 w' → Calls Tryz.prog 61 #[.pointer (some ⟨b, 0, none⟩), .string ⟨#[110, 105, 108]⟩] w' fun e w2 => (∃ n, e = .returned (.tuple #[.int .i64 n, .nilIface])) ∧ Wib w2 B b (l ++ [110, 105, 108]) ∧ Below B w' w2 ∧ Oth b w' w2 := HW [110, 105, 108] (by decide)
    have b1 : (t == 1) = false := by simp; omega
    have b2 : (t == 2) = false := by simp; omega
    have b3 : (t == 3) = false := by simp; omega
    have b4 : (t == 4) = false := by simp; omega
    clear HW hg h2 HI ht
    rw [hW2] at HW1 hd0
    go_enter Tryz.func29, Tryz.ntmps29
    go_wp2_with (go_at_call 61; refine (HW1 _ hd0).mono ?_; rintro e w5 ⟨⟨n5, rfl⟩, hB5, hb5, ho5⟩)
    go_end0
    rw [← hW2] at hd0
    rw [← hW2] at hb5 ho5
    exact HF _ _ _ hd0 hB5 hb5 ho5

set_option maxHeartbeats 1000000 in
theorem impl_endLine (w : World) (B b : Nat) (l : List UInt8) (h : Wib w B b l) (hl : l.length ≤ 10000000) (hB : B ≤ w.heap.size) :
    Calls Tryz.prog 30 #[.pointer (some ⟨b, 0, none⟩)] w fun r w' => Wrote w w' B b (l ++ [10]) r := by
  have HW1 : Calls Tryz.prog 61 #[.pointer (some ⟨b, 0, none⟩), .string ⟨#[10]⟩] w fun e w2 => (∃ n, e = .returned (.tuple #[.int .i64 n, .nilIface])) ∧ Wib w2 B b (l ++ [10]) ∧ Below B w w2 ∧ Oth b w w2 := wi_write w B b l [10] h (by simp; omega) hB
  go_enter Tryz.func30, Tryz.ntmps30
  go_wp2_with (go_at_call 61; refine HW1.mono ?_; rintro e w5 ⟨⟨n5, rfl⟩, hB5, hb5, ho5⟩)
  go_end0
  exact ⟨rfl, hB5, hb5, ho5⟩
end Go.Proofs.YthikfinliiaecaaGreatDoor

