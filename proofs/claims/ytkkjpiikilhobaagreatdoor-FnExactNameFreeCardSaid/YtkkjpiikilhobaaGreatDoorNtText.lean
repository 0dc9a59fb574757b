/-
  The law's own markText: the mark of a number.
-/
import Derived.Test.YtkkjpiikilhobaaGreatDoorNtCnt
import Derived.Test.YtkkjpiikilhobaaGreatDoorNfConv
namespace Go.Proofs.YtkkjpiikilhobaaGreatDoor
open Go.RowKit

theorem mtx_step (k : Nat) (out : ByteArray) (h : k ≠ 0) : mtx k out = mtx (k / 10) (⟨#[UInt8.ofNat (48 + k % 10)]⟩ ++ out) := by
  rw [mtx, if_neg h]
theorem mtx_zero (out : ByteArray) : mtx 0 out = out := by rw [mtx, if_pos rfl]
theorem pow_lt_size {k n : Nat} (hk : 1 ≤ k) (h : k * 10 ^ n < 10000000000) : n < 10 := by
  apply Decidable.byContradiction
  intro hn
  have h1 : 10 ^ 10 ≤ 10 ^ n := Nat.pow_le_pow_right (by omega) (by omega)
  have h2 : 1 * 10 ^ n ≤ k * 10 ^ n := Nat.mul_le_mul_right _ hk
  omega
theorem pow_next {k n : Nat} (h : k * 10 ^ n < 10000000000) : k / 10 * 10 ^ (1 + n) < 10000000000 := by
  have h1 : k / 10 * 10 ≤ k := Nat.div_mul_le_self k 10
  have h2 : k / 10 * 10 * 10 ^ n ≤ k * 10 ^ n := Nat.mul_le_mul_right _ h1
  rw [Nat.pow_add, Nat.pow_one, ← Nat.mul_assoc]
  omega

set_option maxRecDepth 100000 in
set_option maxHeartbeats 400000 in
theorem law_markText (n : Nat) (h1 : 1 ≤ n) (hn : n < 1000000000) (w : World) : Calls Tryz.prog 23 #[.int .i64 n] w fun r w' => r = .returned (.string (markT n)) ∧ Below w.heap.size w w' := by
  go_enter Tryz.func23, Tryz.ntmps23
  go_wp2_with fail
  go_loopw [0, 3] (fun i u wr => ∃ (k : Nat) (o : ByteArray), k ≤ n ∧ i = .int .i64 k ∧ u = .string o ∧ o.size < 11 ∧ Hid (k * 10 ^ o.size < 10000000000) ∧ Hid (mtx n ⟨#[]⟩ = mtx k o) ∧ Below w.heap.size w wr) (fun i _ _ => (intOf i).toNat)
  case atStart => exact ⟨n, ⟨#[]⟩, Nat.le_refl _, rfl, rfl, by simp [ByteArray.size], by show _ < _; simp [ByteArray.size]; omega, rfl, Below.refl _ _⟩
  case round =>
    obtain ⟨k, o, hk, rfl, rfl, ho, HP, HM, hB⟩ := hrel
    by_cases hz : k = 0
    · subst hz
      have HE : Hid (markT n = ⟨#[109]⟩ ++ o) := by show _ = _; rw [markT, HM.out, mtx_zero]
      go_wp2_with fail
      go_ret
      exact ⟨by rw [HE.out]; rfl, hB⟩
    · obtain ⟨m, hm⟩ : ∃ m, m = k / 10 := ⟨_, rfl⟩
      obtain ⟨q, hq⟩ : ∃ q, q = k % 10 := ⟨_, rfl⟩
      obtain ⟨c, hc⟩ : ∃ c : UInt8, c = UInt8.ofNat (48 + q) := ⟨_, rfl⟩
      have hlt := pow_lt_size (by omega) HP.out
      have HP2 : Hid (m * 10 ^ (1 + o.size) < 10000000000) := by rw [hm]; exact pow_next HP.out
      have HM2 : Hid (mtx n ⟨#[]⟩ = mtx m (⟨#[c]⟩ ++ o)) := by show _ = _; rw [HM.out, mtx_step k o hz, hm, hc, hq]
      have hq9 : q < 10 := by omega
      have hmk : m < k := by omega
      have hwr : IntKind.i64.wrap ((k : Int) / 10) = (m : Int) := by
        rw [show (k : Int) / 10 = (m : Int) by omega, IntKind.wrap_i64]; omega
      have hwd : (k : Int) / 10 = (m : Int) := by omega
      have hwq : (k : Int) % 10 = (q : Int) := by omega
      have hzc : (48 : Int) + q = (c.toNat : Int) := by rw [hc]; simp; omega
      have hcv := conv_one wr c (48 + (q : Int)) wr.heap.size hzc rfl
      have hcv1 := conv_one wr c ((c.toNat : Int)) wr.heap.size rfl rfl
      clear hm hq hc
      go_wp2_with fail
      go_roundw
      case rel => exact ⟨m, ⟨#[c]⟩ ++ o, by omega, by go_num, rfl, by rw [ByteArray.size_append]; show 1 + o.size < 11; omega, by rw [ByteArray.size_append]; exact HP2.out, HM2, hB.alloc hB.size _⟩
      case measure => simp [intOf]; omega
end Go.Proofs.YtkkjpiikilhobaaGreatDoor
