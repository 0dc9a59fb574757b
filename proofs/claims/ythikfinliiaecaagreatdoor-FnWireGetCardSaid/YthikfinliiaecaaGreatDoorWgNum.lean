/-
  The specification's l12Number.
-/
import Derived.Test.YthikfinliiaecaaGreatDoorWgMath
import Derived.Test.YthikfinliiaecaaGreatDoorLsFig
import Derived.Test.YthikfinliiaecaaGreatDoorHoSpec
namespace Go.Proofs.YthikfinliiaecaaGreatDoor
open Go.RowKit

theorem numF_big (l : List UInt8) (h : l.all figB = true) (h6 : l.length ≤ 10) : 0 ≤ numF 0 l ∧ numF 0 l < 10000000000 := by
  have h1 := numF_bd l h
  have h2 : 10 ^ l.length ≤ 10 ^ 10 := Nat.pow_le_pow_right (by decide) h6
  omega
theorem in32_dec (n : Int) : (wrapM n == n) = decide (In32 n) := by
  rw [wrap_eq]
  rfl
theorem num12_pos {s : List UInt8} (h : s.head? ≠ some 45) : num12 s = if s.all figB = true ∧ s.length ≤ 10 ∧ s ≠ [] ∧ ¬ (1 < s.length ∧ s.head? = some 48) then (numF 0 s, decide (In32 (numF 0 s))) else (0, false) := by
  unfold num12
  rw [if_neg h]
theorem num12_neg {s : List UInt8} (h : s.head? = some 45) : num12 s = if s.tail.all figB = true ∧ s.tail.length ≤ 10 ∧ s.tail ≠ [] ∧ ¬ (1 < s.tail.length ∧ s.tail.head? = some 48) ∧ numF 0 s.tail ≠ 0 then (-(numF 0 s.tail), decide (In32 (-(numF 0 s.tail)))) else (0, false) := by
  unfold num12
  rw [if_pos h]
set_option maxRecDepth 100000 in
set_option maxHeartbeats 4000000 in
theorem spec_l12Number (s : List UInt8) (hl : s.length ≤ 1048576) (w : World) : Calls Tryz.prog 50 #[.string (bx s)] w fun r w' => r = .returned (.tuple #[.int .i64 (num12 s).1, .bool (num12 s).2]) ∧ w = w' := by
  obtain ⟨t, hsz, hHat, hHex, e⟩ : ∃ t : ByteArray, t.size = s.length ∧ Hid (∀ i (h : i < s.length) (h' : i < t.size), t[i]'h' = s[i]) ∧ Hid (t.extract 1 s.length = bx s.tail) ∧ bx s = t := ⟨bx s, bx_size s, fun i _ h' => byte_at s i h', by
    show _ = _
    rw [bx_extract, List.drop_one, List.take_of_length_le (by rw [List.length_tail]; exact Nat.le_refl _)], rfl⟩
  rw [e]
  clear e
  have hWr := fun x => ho_l5Wrap x w
  by_cases h45 : s.head? = some 45
  · have hN := num12_neg h45
    obtain ⟨v, hv⟩ : ∃ v, v = num12 s := ⟨_, rfl⟩
    rw [← hv] at hN ⊢
    have h0 : 0 < s.length := by
      cases s with
      | nil => simp at h45
      | cons c r => simp
    have h0t : 0 < t.size := by omega
    have hi0 : (0 : Int) < (s.length : Int) := by omega
    have hc0 : ((t[0]'h0t).toNat : Int) = 45 := by
      rw [hHat.out 0 h0 h0t]
      have := head_zero s h0
      rw [h45] at this
      rw [← Option.some.inj this]
      rfl
    have hi1 : (1 : Int) ≤ (s.length : Int) := by omega
    obtain ⟨u, husz, huat, hu⟩ : ∃ u : ByteArray, u.size = s.tail.length ∧ Hid (∀ i (h : i < s.tail.length) (h' : i < u.size), u[i]'h' = s.tail[i]) ∧ t.extract 1 s.length = u := ⟨bx s.tail, bx_size _, fun i _ h' => byte_at _ i h', hHex.out⟩
    have hdl : s.tail.length ≤ 1048576 := by rw [List.length_tail]; omega
    generalize s.tail = d at *
    clear hHat hHex hv
    have HN : Hid (v = if d.all figB = true ∧ d.length ≤ 10 ∧ d ≠ [] ∧ ¬ (1 < d.length ∧ d.head? = some 48) ∧ numF 0 d ≠ 0 then (-(numF 0 d), decide (In32 (-(numF 0 d)))) else (0, false)) := hN
    clear hN
    go_enter Tryz.func50, Tryz.ntmps50
    go_wp2_with fail
    clear hc0 hi1
    go_loopg [5, 6] d.length (fun m n i wr => ∃ k : Nat, k + m = d.length ∧ n = .int .i64 (numF 0 (d.take k)) ∧ i = .int .i64 (k : Int) ∧ Hid ((d.take k).all figB = true) ∧ k ≤ 10 ∧ wr = w)
    case atStart => exact ⟨0, by omega, rfl, rfl, rfl, by omega, rfl⟩
    case round =>
      obtain ⟨k, hk, rfl, rfl, hall, h6, rfl⟩ := hrel
      by_cases hlt : k < d.length
      · have hki : (k : Int) < (d.length : Int) := by omega
        have hkt : k < u.size := by omega
        have hby : u[k]'hkt = d[k] := huat.out k hlt hkt
        have hF := fun w => spec_figure d[k] w
        rw [← hby] at hF
        cases hfg : figB (u[k]'hkt) with
        | false =>
          rw [hfg] at hF
          have hno : ¬ figB d[k] = true := by rw [← hby, hfg]; simp
          have hRm : Hid (v = (0, false)) := by
            show _ = _
            rw [HN.out, if_neg]
            intro h
            exact hno (List.all_eq_true.1 h.1 _ (List.getElem_mem hlt))
          clear hby hno hfg HN
          go_wp2_with (go_at_call 77; refine (hF _).mono ?_; rintro r w2 ⟨rfl, rfl⟩)
          exact bodyPost_ret (results_tmp2 rfl _ _ _) rfl ⟨by rw [hRm.out]; rfl, rfl⟩
        | true =>
          rw [hfg] at hF
          have hyes : figB d[k] = true := by rw [← hby, hfg]
          by_cases hk6 : k < 10
          · have hki6 : (k : Int) < 10 := by omega
            have hN := numF_big (d.take k) hall.out (by rw [List.length_take]; omega)
            have hc := of_decide_eq_true hfg
            have hnx : Hid (numF 0 (d.take (k + 1)) = numF 0 (d.take k) * 10 + (((u[k]'hkt).toNat : Int) - 48)) := by
              show _ = _
              rw [List.take_succ_eq_append_getElem hlt, numF_app, hby]
              rfl
            have hall2 : Hid ((d.take (k + 1)).all figB = true) := by
              show _ = true
              rw [List.take_succ_eq_append_getElem hlt, List.all_append, hall.out]
              simp [hyes]
            have wr1 : IntKind.i64.wrap ((k : Int) + 1) = (k : Int) + 1 := ck_wr _ (by omega) (by omega)
            have wr2 : IntKind.i64.wrap (numF 0 (d.take k) * 10) = numF 0 (d.take k) * 10 := ck_wr _ (by omega) (by omega)
            have wr3 : IntKind.u8.wrap (((u[k]'hkt).toNat : Int) - 48) = ((u[k]'hkt).toNat : Int) - 48 := by simp [IntKind.wrap, IntKind.bits, IntKind.signed]; omega
            have wr4 : IntKind.i64.wrap (((u[k]'hkt).toNat : Int) - 48) = ((u[k]'hkt).toNat : Int) - 48 := ck_wr _ (by omega) (by omega)
            have wr5 : IntKind.i64.wrap (numF 0 (d.take k) * 10 + (((u[k]'hkt).toNat : Int) - 48)) = numF 0 (d.take k) * 10 + (((u[k]'hkt).toNat : Int) - 48) := ck_wr _ (by omega) (by omega)
            clear hyes hfg hby HN
            go_wp2_with (go_at_call 77; refine (hF _).mono ?_; rintro r w2 ⟨rfl, rfl⟩)
            go_roundg (d.length - (k + 1))
            case measure => omega
            case rel => exact ⟨k + 1, by omega, by rw [hnx.out], by go_num, hall2, by omega, rfl⟩
          · have hki6 : ¬ (k : Int) < 10 := by omega
            have hRm : Hid (v = (0, false)) := by
              show _ = _
              rw [HN.out, if_neg (fun h => by have := h.2.1; omega)]
            clear hyes hfg hby HN
            go_wp2_with (go_at_call 77; refine (hF _).mono ?_; rintro r w2 ⟨rfl, rfl⟩)
            exact bodyPost_ret (results_tmp2 rfl _ _ _) rfl ⟨by rw [hRm.out]; rfl, rfl⟩
      · obtain rfl : k = d.length := by omega
        have hki : ¬ (d.length : Int) < (d.length : Int) := by omega
        have hall' := hall.out
        rw [List.take_length] at hall' ⊢
        by_cases h0 : d.length = 0
        · have hRm : Hid (v = (0, false)) := by
            show _ = _
            rw [HN.out, if_neg (fun h => h.2.2.1 (List.length_eq_zero_iff.1 h0))]
          have hz : (d.length : Int) = 0 := by omega
          clear HN
          go_wp2_with fail
          exact bodyPost_ret (results_tmp2 rfl _ _ _) rfl ⟨by rw [hRm.out]; rfl, rfl⟩
        have h0u : 0 < u.size := by omega
        have hby : u[0]'h0u = d[0]'(by omega) := huat.out 0 (by omega) h0u
        have hhd : d.head? = some (d[0]'(by omega)) := head_zero d (by omega)
        have hz : ¬ (d.length : Int) = 0 := by omega
        have hnz : d ≠ [] := fun e => h0 (by rw [e]; rfl)
        have hbig := numF_big d hall' h6
        have key : (1 < d.length ∧ d.head? = some 48) ∨ ¬ (1 < d.length ∧ d.head? = some 48) := Classical.em _
        rcases key with hbad | hgood
        · have hRm : Hid (v = (0, false)) := by
            show _ = _
            rw [HN.out, if_neg (fun h => h.2.2.2.1 hbad)]
          have h1i : (1 : Int) < (d.length : Int) := by omega
          have hq : ((u[0]'h0u).toNat : Int) = 48 := by
            rw [hby]
            have := hbad.2
            rw [hhd] at this
            rw [Option.some.inj this]
            rfl
          clear HN hbad hby hhd
          go_wp2_with fail
          exact bodyPost_ret (results_tmp2 rfl _ _ _) rfl ⟨by rw [hRm.out]; rfl, rfl⟩
        have hway : (¬ (1 : Int) < (d.length : Int)) ∨ (1 : Int) < (d.length : Int) ∧ ¬ ((u[0]'h0u).toNat : Int) = 48 ∧ (((u[0]'h0u).toNat : Int) == 48) = false := by
          by_cases h1 : 1 < d.length
          · refine Or.inr ⟨by omega, ?_⟩
            have hne : ¬ ((u[0]'h0u).toNat : Int) = 48 := by
              rw [hby]
              intro e
              refine hgood ⟨h1, ?_⟩
              rw [hhd]
              congr 1
              exact UInt8.toNat_inj.1 (by have h9 : ((48 : UInt8).toNat) = 48 := rfl; omega)
            exact ⟨hne, by simpa using hne⟩
          · exact Or.inl (by omega)
        clear hby hhd
        by_cases hn0 : numF 0 d = 0
        · have hRm : Hid (v = (0, false)) := by
            show _ = _
            rw [HN.out, if_neg (fun h => h.2.2.2.2 hn0)]
          clear HN hgood hall hall'
          generalize numF 0 d = n at *
          rcases hway with h1i | ⟨h1i, hq, hqb⟩
          all_goals
            go_wp2_with fail
            exact bodyPost_ret (results_tmp2 rfl _ _ _) rfl ⟨by rw [hRm.out]; rfl, rfl⟩
        have hRm : Hid (v = (-(numF 0 d), decide (In32 (-(numF 0 d))))) := by
          show _ = _
          rw [HN.out, if_pos ⟨hall', h6, hnz, hgood, hn0⟩]
        have hW := hWr (-(numF 0 d))
        have hin := in32_dec (-(numF 0 d))
        have wn : IntKind.i64.wrap (-(numF 0 d)) = -(numF 0 d) := ck_wr _ (by omega) (by omega)
        generalize wrapM (-(numF 0 d)) = wm at *
        clear HN hgood hall hall'
        have hnb : (numF 0 d == 0) = false := by simpa using hn0
        generalize numF 0 d = n at *
        rcases hway with h1i | ⟨h1i, hq, hqb⟩
        all_goals
          go_wp2_with (go_at_call 54; refine hW.mono ?_; rintro r w2 ⟨rfl, rfl⟩)
          exact bodyPost_ret (results_tmp2 rfl _ _ _) rfl ⟨by rw [hRm.out, ← hin]; rfl, rfl⟩
  · have hN := num12_pos h45
    obtain ⟨v, hv⟩ : ∃ v, v = num12 s := ⟨_, rfl⟩
    rw [← hv] at hN ⊢
    have HN : Hid (v = if s.all figB = true ∧ s.length ≤ 10 ∧ s ≠ [] ∧ ¬ (1 < s.length ∧ s.head? = some 48) then (numF 0 s, decide (In32 (numF 0 s))) else (0, false)) := hN
    have hcut : (¬ (0 : Int) < (s.length : Int)) ∨ (0 : Int) < (s.length : Int) ∧ ∃ h : 0 < t.size, (((t[0]'h).toNat : Int) == 45) = false ∧ ¬ ((t[0]'h).toNat : Int) = 45 := by
      by_cases h0 : 0 < s.length
      · refine Or.inr ⟨by omega, by omega, ?_⟩
        have hne : ¬ ((t[0]'(by omega)).toNat : Int) = 45 := by
          rw [hHat.out 0 h0 (by omega)]
          intro e
          refine h45 ?_
          rw [head_zero s h0]
          congr 1
          exact UInt8.toNat_inj.1 (by have h9 : ((45 : UInt8).toNat) = 45 := rfl; omega)
        exact ⟨by simpa using hne, hne⟩
      · exact Or.inl (by omega)
    clear hHex hv hN h45
    rcases hcut with h0 | ⟨h0, h0t, hb45, hn45⟩
    · have hs0 : s.length = 0 := by omega
      have hRm : Hid (v = (0, false)) := by
        show _ = _
        rw [HN.out, if_neg (fun h => h.2.2.1 (List.length_eq_zero_iff.1 hs0))]
      have hz : (s.length : Int) = 0 := by omega
      clear HN hHat hs0
      go_enter Tryz.func50, Tryz.ntmps50
      go_wp2_with fail
      go_loopg [5, 6] 0 (fun m n i wr => m = 0 ∧ n = .int .i64 0 ∧ i = .int .i64 0 ∧ wr = w)
      case atStart => exact ⟨rfl, rfl, rfl, rfl⟩
      case round =>
        obtain ⟨_, rfl, rfl, rfl⟩ := hrel
        go_wp2_with fail
        exact bodyPost_ret (results_tmp2 rfl _ _ _) rfl ⟨by rw [hRm.out]; rfl, rfl⟩
    · go_enter Tryz.func50, Tryz.ntmps50
      go_wp2_with fail
      clear h0
      go_loopg [5, 6] s.length (fun m n i wr => ∃ k : Nat, k + m = s.length ∧ n = .int .i64 (numF 0 (s.take k)) ∧ i = .int .i64 (k : Int) ∧ Hid ((s.take k).all figB = true) ∧ k ≤ 10 ∧ wr = w)
      case atStart => exact ⟨0, by omega, rfl, rfl, rfl, by omega, rfl⟩
      case round =>
        obtain ⟨k, hk, rfl, rfl, hall, h6, rfl⟩ := hrel
        by_cases hlt : k < s.length
        · have hki : (k : Int) < (s.length : Int) := by omega
          have hkt : k < t.size := by omega
          have hby : t[k]'hkt = s[k] := hHat.out k hlt hkt
          have hF := fun w => spec_figure s[k] w
          rw [← hby] at hF
          cases hfg : figB (t[k]'hkt) with
          | false =>
            rw [hfg] at hF
            have hno : ¬ figB s[k] = true := by rw [← hby, hfg]; simp
            have hRm : Hid (v = (0, false)) := by
              show _ = _
              rw [HN.out, if_neg]
              intro h
              exact hno (List.all_eq_true.1 h.1 _ (List.getElem_mem hlt))
            clear hby hno hfg HN
            go_wp2_with (go_at_call 77; refine (hF _).mono ?_; rintro r w2 ⟨rfl, rfl⟩)
            exact bodyPost_ret (results_tmp2 rfl _ _ _) rfl ⟨by rw [hRm.out]; rfl, rfl⟩
          | true =>
            rw [hfg] at hF
            have hyes : figB s[k] = true := by rw [← hby, hfg]
            by_cases hk6 : k < 10
            · have hki6 : (k : Int) < 10 := by omega
              have hN := numF_big (s.take k) hall.out (by rw [List.length_take]; omega)
              have hc := of_decide_eq_true hfg
              have hnx : Hid (numF 0 (s.take (k + 1)) = numF 0 (s.take k) * 10 + (((t[k]'hkt).toNat : Int) - 48)) := by
                show _ = _
                rw [List.take_succ_eq_append_getElem hlt, numF_app, hby]
                rfl
              have hall2 : Hid ((s.take (k + 1)).all figB = true) := by
                show _ = true
                rw [List.take_succ_eq_append_getElem hlt, List.all_append, hall.out]
                simp [hyes]
              have wr1 : IntKind.i64.wrap ((k : Int) + 1) = (k : Int) + 1 := ck_wr _ (by omega) (by omega)
              have wr2 : IntKind.i64.wrap (numF 0 (s.take k) * 10) = numF 0 (s.take k) * 10 := ck_wr _ (by omega) (by omega)
              have wr3 : IntKind.u8.wrap (((t[k]'hkt).toNat : Int) - 48) = ((t[k]'hkt).toNat : Int) - 48 := by simp [IntKind.wrap, IntKind.bits, IntKind.signed]; omega
              have wr4 : IntKind.i64.wrap (((t[k]'hkt).toNat : Int) - 48) = ((t[k]'hkt).toNat : Int) - 48 := ck_wr _ (by omega) (by omega)
              have wr5 : IntKind.i64.wrap (numF 0 (s.take k) * 10 + (((t[k]'hkt).toNat : Int) - 48)) = numF 0 (s.take k) * 10 + (((t[k]'hkt).toNat : Int) - 48) := ck_wr _ (by omega) (by omega)
              clear hyes hfg hby HN
              go_wp2_with (go_at_call 77; refine (hF _).mono ?_; rintro r w2 ⟨rfl, rfl⟩)
              go_roundg (s.length - (k + 1))
              case measure => omega
              case rel => exact ⟨k + 1, by omega, by rw [hnx.out], by go_num, hall2, by omega, rfl⟩
            · have hki6 : ¬ (k : Int) < 10 := by omega
              have hRm : Hid (v = (0, false)) := by
                show _ = _
                rw [HN.out, if_neg (fun h => by have := h.2.1; omega)]
              clear hyes hfg hby HN
              go_wp2_with (go_at_call 77; refine (hF _).mono ?_; rintro r w2 ⟨rfl, rfl⟩)
              exact bodyPost_ret (results_tmp2 rfl _ _ _) rfl ⟨by rw [hRm.out]; rfl, rfl⟩
        · obtain rfl : k = s.length := by omega
          have hki : ¬ (s.length : Int) < (s.length : Int) := by omega
          have hall' := hall.out
          rw [List.take_length] at hall' ⊢
          by_cases h0 : s.length = 0
          · have hRm : Hid (v = (0, false)) := by
              show _ = _
              rw [HN.out, if_neg (fun h => h.2.2.1 (List.length_eq_zero_iff.1 h0))]
            have hz : (s.length : Int) = 0 := by omega
            clear HN
            go_wp2_with fail
            exact bodyPost_ret (results_tmp2 rfl _ _ _) rfl ⟨by rw [hRm.out]; rfl, rfl⟩
          have h0u : 0 < t.size := by omega
          have hby : t[0]'h0u = s[0]'(by omega) := hHat.out 0 (by omega) h0u
          have hhd : s.head? = some (s[0]'(by omega)) := head_zero s (by omega)
          have hz : ¬ (s.length : Int) = 0 := by omega
          have hnz : s ≠ [] := fun e => h0 (by rw [e]; rfl)
          have hbig := numF_big s hall' h6
          have key : (1 < s.length ∧ s.head? = some 48) ∨ ¬ (1 < s.length ∧ s.head? = some 48) := Classical.em _
          rcases key with hbad | hgood
          · have hRm : Hid (v = (0, false)) := by
              show _ = _
              rw [HN.out, if_neg (fun h => h.2.2.2 hbad)]
            have h1i : (1 : Int) < (s.length : Int) := by omega
            have hq : ((t[0]'h0u).toNat : Int) = 48 := by
              rw [hby]
              have := hbad.2
              rw [hhd] at this
              rw [Option.some.inj this]
              rfl
            clear HN hbad hby hhd
            go_wp2_with fail
            exact bodyPost_ret (results_tmp2 rfl _ _ _) rfl ⟨by rw [hRm.out]; rfl, rfl⟩
          have hway : (¬ (1 : Int) < (s.length : Int)) ∨ (1 : Int) < (s.length : Int) ∧ ¬ ((t[0]'h0u).toNat : Int) = 48 ∧ (((t[0]'h0u).toNat : Int) == 48) = false := by
            by_cases h1 : 1 < s.length
            · refine Or.inr ⟨by omega, ?_⟩
              have hne : ¬ ((t[0]'h0u).toNat : Int) = 48 := by
                rw [hby]
                intro e
                refine hgood ⟨h1, ?_⟩
                rw [hhd]
                congr 1
                exact UInt8.toNat_inj.1 (by have h9 : ((48 : UInt8).toNat) = 48 := rfl; omega)
              exact ⟨hne, by simpa using hne⟩
            · exact Or.inl (by omega)
          clear hby hhd
          have hRm : Hid (v = (numF 0 s, decide (In32 (numF 0 s)))) := by
            show _ = _
            rw [HN.out, if_pos ⟨hall', h6, hnz, hgood⟩]
          have hW := hWr (numF 0 s)
          have hin := in32_dec (numF 0 s)
          generalize wrapM (numF 0 s) = wm at *
          clear HN hgood hall hall'
          generalize numF 0 s = n at *
          rcases hway with h1i | ⟨h1i, hq, hqb⟩
          all_goals
            go_wp2_with (go_at_call 54; refine hW.mono ?_; rintro r w2 ⟨rfl, rfl⟩)
            exact bodyPost_ret (results_tmp2 rfl _ _ _) rfl ⟨by rw [hRm.out, ← hin]; rfl, rfl⟩
end Go.Proofs.YthikfinliiaecaaGreatDoor

