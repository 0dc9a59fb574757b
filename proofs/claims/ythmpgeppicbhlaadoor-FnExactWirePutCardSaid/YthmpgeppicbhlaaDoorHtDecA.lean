/-
  The specification's l1Dec of every number; texts as lists of bytes.
-/
import Derived.Test.YthmpgeppicbhlaaDoorHtDec
import Derived.Deep.RegionHeld3
namespace Go.Proofs.YthmpgeppicbhlaaDoor
open Go.RowKit

/-- A number of 64 bits. -/
abbrev In64 (n : Int) : Prop := -9223372036854775808 ≤ n ∧ n ≤ 9223372036854775807
/-- A text out of its bytes. -/
def bx (l : List UInt8) : ByteArray := ⟨l.toArray⟩
theorem bx_app (a b : List UInt8) : bx a ++ bx b = bx (a ++ b) := by
  apply ByteArray.ext
  simp [bx, ByteArray.data_append]
theorem bx_size (a : List UInt8) : (bx a).size = a.length := by simp [bx, ByteArray.size]
theorem bx_dec (n : Int) : decZ n = bx (Lib.itoa n) := rfl
theorem itoa_len (n : Int) (h : In64 n) : (Lib.itoa n).length ≤ 20 := by
  rw [Lib.itoa]
  split
  · have := dec_len 18 n.natAbs (by omega)
    simp; omega
  · have := dec_len 18 n.toNat (by omega)
    omega

set_option maxHeartbeats 400000 in
theorem dec_all (n : Int) (h : In64 n) (w : World) : Calls Tryd.prog 28 #[.int .i64 n] w fun r w' => r = .returned (.string (bx (Lib.itoa n))) ∧ Below w.heap.size w w' := by
  rw [← bx_dec]
  by_cases hn : 0 ≤ n
  · obtain ⟨i, rfl⟩ := Int.eq_ofNat_of_zero_le hn
    rw [decZ_nat]
    exact ht_l1Dec i (by omega) w
  · by_cases hm : n = -9223372036854775808
    · subst hm
      have hD : decZ (-9223372036854775808) = ⟨#[45, 57, 50, 50, 51, 51, 55, 50, 48, 51, 54, 56, 53, 52, 55, 55, 53, 56, 48, 56]⟩ := by kernel_rfl
      rw [hD]
      go_enter Tryd.func28, Tryd.ntmps28
      go_wp2_with fail
      go_ret
      exact ⟨rfl, Below.refl _ _⟩
    obtain ⟨i, hi⟩ : ∃ i : Nat, n = -(i : Int) := ⟨n.natAbs, by omega⟩
    subst hi
    have hD : decZ (-(i : Int)) = ⟨#[45]⟩ ++ decN i := by
      rw [decZ, Lib.itoa_neg i (by omega)]
      apply ByteArray.ext
      simp [decN, ByteArray.data_append]
    have hs := decN_size i (by omega)
    have hL : ∀ (z : Int) (w' : World), z = i → Calls Tryd.prog 28 #[.int .i64 z] w' fun r w2 => r = .returned (.string (decN i)) ∧ Below w'.heap.size w' w2 := fun z w' hz => by subst hz; exact ht_l1Dec i (by omega) w'
    rw [hD]
    go_enter Tryd.func28, Tryd.ntmps28
    go_wp2_with (go_at_call 28; refine (hL _ _ (by first | rfl | omega | (simp; done) | (rw [IntKind.wrap_i64]; omega))).mono ?_; rintro r w2 ⟨rfl, hb2⟩)
    go_ret
    exact ⟨rfl, hb2⟩
end Go.Proofs.YthmpgeppicbhlaaDoor
