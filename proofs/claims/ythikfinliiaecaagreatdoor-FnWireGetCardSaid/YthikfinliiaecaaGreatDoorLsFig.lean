/-
  The specification's l1Figure, l1Num.
-/
import Derived.Test.YthikfinliiaecaaGreatDoorFgAll37
import Derived.Test.YthikfinliiaecaaGreatDoorFgAll33
import Derived.Deep.LoopGhost
namespace Go.Proofs.YthikfinliiaecaaGreatDoor
open Go.RowKit

set_option maxHeartbeats 400000 in
theorem spec_figure (c : UInt8) (w : World) : Calls Tryz.prog 77 #[.int .u8 (c.toNat : Int)] w fun r w' => r = .returned (.bool (figB c)) ∧ w = w' := by
  unfold figB
  by_cases h1 : 48 ≤ c.toNat
  · by_cases h2 : c.toNat ≤ 57
    · rw [decide_eq_true ⟨h1, h2⟩]
      have e : decide ((c.toNat : Int) ≤ 57) = true := decide_eq_true (by omega)
      go_enter Tryz.func77, Tryz.ntmps77
      go_wp2_with fail
      go_ret
      exact ⟨rfl, rfl⟩
    · rw [decide_eq_false (fun h => h2 h.2)]
      have e : decide ((c.toNat : Int) ≤ 57) = false := decide_eq_false (by omega)
      go_enter Tryz.func77, Tryz.ntmps77
      go_wp2_with fail
      go_ret
      exact ⟨rfl, rfl⟩
  · rw [decide_eq_false (fun h => h1 h.1)]
    go_enter Tryz.func77, Tryz.ntmps77
    go_wp2_with fail
    go_ret
    exact ⟨rfl, rfl⟩
theorem head_zero : ∀ (l : List UInt8) (h : 0 < l.length), l.head? = some (l[0]'h)
  | _ :: _, _ => rfl
theorem numF_key : ∀ (l : List UInt8) (a : Int), l.all figB = true → 0 ≤ a → 0 ≤ numF a l ∧ numF a l < (a + 1) * ((10 ^ l.length : Nat) : Int)
  | [], a, _, h => by simp [numF]; omega
  | c :: l, a, h, ha => by
    rw [List.all_cons, Bool.and_eq_true] at h
    have hc := of_decide_eq_true h.1
    have ih := numF_key l (a * 10 + ((c.toNat : Int) - 48)) h.2 (by omega)
    rw [numF]
    refine ⟨ih.1, Int.lt_of_lt_of_le ih.2 ?_⟩
    have hp : (0 : Int) ≤ ((10 ^ l.length : Nat) : Int) := Int.natCast_nonneg _
    have h10 : a * 10 + ((c.toNat : Int) - 48) + 1 ≤ (a + 1) * 10 := by omega
    have e : ((10 ^ (c :: l).length : Nat) : Int) = 10 * ((10 ^ l.length : Nat) : Int) := by
      rw [List.length_cons, Nat.pow_succ, Nat.mul_comm]
      simp
    rw [e, ← Int.mul_assoc]
    exact Int.mul_le_mul_of_nonneg_right h10 hp
theorem numF_bd (l : List UInt8) (h : l.all figB = true) : 0 ≤ numF 0 l ∧ numF 0 l < ((10 ^ l.length : Nat) : Int) := by
  have := numF_key l 0 h (Int.le_refl _)
  simpa using this
theorem numF_six (l : List UInt8) (h : l.all figB = true) (h6 : l.length ≤ 6) : 0 ≤ numF 0 l ∧ numF 0 l ≤ 999999 := by
  have h1 := numF_bd l h
  have h2 : 10 ^ l.length ≤ 10 ^ 6 := Nat.pow_le_pow_right (by decide) h6
  omega
set_option maxRecDepth 100000 in
set_option maxHeartbeats 2000000 in
theorem spec_l1Num (d : List UInt8) (hl : d.length ≤ 1048576) (w : World) : Calls Tryz.prog 49 #[.string (bx d)] w fun r w' => r = .returned (.int .i64 (numM d)) ∧ w = w' := by
  obtain ⟨t, hsz, hHat, e⟩ : ∃ t : ByteArray, t.size = d.length ∧ Hid (∀ i (h : i < d.length) (h' : i < t.size), t[i]'h' = d[i]) ∧ bx d = t := ⟨bx d, bx_size d, fun i _ h' => byte_at d i h', rfl⟩
  rw [e]
  clear e
  generalize hR : numM d = R
  have HR : Hid (numM d = R) := hR
  clear hR
  go_enter Tryz.func49, Tryz.ntmps49
  go_wp2_with fail
  go_loopg [3, 4] d.length (fun m n i wr => ∃ k : Nat, k + m = d.length ∧ n = .int .i64 (numF 0 (d.take k)) ∧ i = .int .i64 (k : Int) ∧ Hid ((d.take k).all figB = true) ∧ k ≤ 6 ∧ wr = w)
  case atStart => exact ⟨0, by omega, rfl, rfl, rfl, by omega, rfl⟩
  case round =>
    obtain ⟨k, hk, rfl, rfl, hall, h6, rfl⟩ := hrel
    by_cases hlt : k < d.length
    · have hki : (k : Int) < (d.length : Int) := by omega
      have hkt : k < t.size := by omega
      have hby : t[k]'hkt = d[k] := hHat.out k hlt hkt
      have hF := fun w => spec_figure d[k] w
      rw [← hby] at hF
      have hex : Hid (t[k]'hkt = d[k]) := hby
      cases hfg : figB (t[k]'hkt) with
      | false =>
        rw [hfg] at hF
        have hno : ¬ figB d[k] = true := by rw [← hby, hfg]; simp
        have hRm : R = -1 := by
          rw [← HR.out]
          unfold numM
          rw [if_neg]
          intro h
          exact hno (List.all_eq_true.1 h.1 _ (List.getElem_mem hlt))
        subst hRm
        clear hby hno hfg
        go_wp2_with (go_at_call 77; refine (hF _).mono ?_; rintro r w2 ⟨rfl, rfl⟩)
        go_ret
        exact ⟨rfl, rfl⟩
      | true =>
        rw [hfg] at hF
        have hyes : figB d[k] = true := by rw [← hby, hfg]
        by_cases hk6 : k < 6
        · have hki6 : (k : Int) < 6 := by omega
          have hN := numF_six (d.take k) hall.out (by rw [List.length_take]; omega)
          have hc := of_decide_eq_true hfg
          have hnx : Hid (numF 0 (d.take (k + 1)) = numF 0 (d.take k) * 10 + (((t[k]'hkt).toNat : Int) - 48)) := by
            show _ = _
            rw [List.take_succ_eq_append_getElem hlt, numF_app, hby]
            rfl
          have hall2 : Hid ((d.take (k + 1)).all figB = true) := by
            show _ = true
            rw [List.take_succ_eq_append_getElem hlt, List.all_append, hall.out]
            simp [hyes]
          have wr1 : IntKind.i64.wrap ((k : Int) + 1) = (k : Int) + 1 := ck_wr _ (by omega) (by omega)
          have wr2 : IntKind.i64.wrap (numF 0 (d.take k) * 10) = numF 0 (d.take k) * 10 := ck_wr _ (by omega) (by omega)
          have wr3 : IntKind.u8.wrap (((t[k]'hkt).toNat : Int) - 48) = ((t[k]'hkt).toNat : Int) - 48 := by simp [IntKind.wrap, IntKind.bits, IntKind.signed]; omega
          have wr4 : IntKind.i64.wrap (((t[k]'hkt).toNat : Int) - 48) = ((t[k]'hkt).toNat : Int) - 48 := ck_wr _ (by omega) (by omega)
          have wr5 : IntKind.i64.wrap (numF 0 (d.take k) * 10 + (((t[k]'hkt).toNat : Int) - 48)) = numF 0 (d.take k) * 10 + (((t[k]'hkt).toNat : Int) - 48) := ck_wr _ (by omega) (by omega)
          clear hyes hfg hby
          go_wp2_with (go_at_call 77; refine (hF _).mono ?_; rintro r w2 ⟨rfl, rfl⟩)
          go_roundg (d.length - (k + 1))
          case measure => omega
          case rel => exact ⟨k + 1, by omega, by rw [hnx.out], by go_num, hall2, by omega, rfl⟩
        · have hki6 : ¬ (k : Int) < 6 := by omega
          have hRm : R = -1 := by
            rw [← HR.out]
            unfold numM
            rw [if_neg (fun h => by omega)]
          subst hRm
          clear hyes hfg hby
          go_wp2_with (go_at_call 77; refine (hF _).mono ?_; rintro r w2 ⟨rfl, rfl⟩)
          go_ret
          exact ⟨rfl, rfl⟩
    · obtain rfl : k = d.length := by omega
      have hki : ¬ (d.length : Int) < (d.length : Int) := by omega
      have hall' := hall.out
      rw [List.take_length] at hall' ⊢
      by_cases h0 : d.length = 0
      · have hRm : R = -1 := by
          rw [← HR.out]
          unfold numM
          rw [if_neg (fun h => h.2.2.1 (List.length_eq_zero_iff.1 h0))]
        subst hRm
        have hz : (d.length : Int) = 0 := by omega
        go_wp2_with fail
        go_ret
        exact ⟨rfl, rfl⟩
      · have h0t : 0 < t.size := by omega
        have hby : t[0]'h0t = d[0]'(by omega) := hHat.out 0 (by omega) h0t
        have hhd : d.head? = some (d[0]'(by omega)) := head_zero d (by omega)
        have hz : ¬ (d.length : Int) = 0 := by omega
        by_cases h1 : 1 < d.length
        · have h1i : (1 : Int) < (d.length : Int) := by omega
          by_cases h48 : d[0]'(by omega) = 48
          · have hq : ((t[0]'h0t).toNat : Int) = 48 := by rw [hby, h48]; rfl
            have hRm : R = -1 := by
              rw [← HR.out]
              unfold numM
              rw [if_neg (fun h => h.2.2.2 ⟨h1, by rw [hhd, h48]⟩)]
            subst hRm
            clear hby
            go_wp2_with fail
            go_ret
            exact ⟨rfl, rfl⟩
          · have hq : ¬ ((t[0]'h0t).toNat : Int) = 48 := by
              rw [hby]
              intro e
              exact h48 (UInt8.toNat_inj.1 (by have h9 : ((48 : UInt8).toNat) = 48 := rfl; omega))
            have hqn : ¬ (t[0]'h0t).toNat = 48 := by omega
            have hqb : (((t[0]'h0t).toNat : Int) == 48) = false := by simpa using hq
            have hRm : R = numF 0 d := by
              rw [← HR.out]
              unfold numM
              rw [if_pos ⟨hall', h6, fun e => h0 (by rw [e]; rfl), fun h => h48 (by have := h.2; rw [hhd] at this; exact Option.some.inj this)⟩]
            have HRM : Hid (R = numF 0 d) := hRm
            clear hby hRm
            go_wp2_with fail
            go_ret
            exact ⟨congrArg (fun n => Ending.returned (.int .i64 n)) HRM.out.symm, rfl⟩
        · have h1i : ¬ (1 : Int) < (d.length : Int) := by omega
          have hRm : R = numF 0 d := by
            rw [← HR.out]
            unfold numM
            rw [if_pos ⟨hall', h6, fun e => h0 (by rw [e]; rfl), fun h => h1 h.1⟩]
          have HRM : Hid (R = numF 0 d) := hRm
          clear hby hRm
          go_wp2_with fail
          go_ret
          exact ⟨congrArg (fun n => Ending.returned (.int .i64 n)) HRM.out.symm, rfl⟩
end Go.Proofs.YthikfinliiaecaaGreatDoor

