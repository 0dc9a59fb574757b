/-
  The specification's l12Word, l12Kinds, l12Put, WirePut.
-/
import Derived.Test.YthmpgeppicbhlaaDoorWiTop
import Derived.Test.YthmpgeppicbhlaaDoorWlSpec
import Derived.Deep.QuietTactic
import Derived.BigQuiet
namespace Go.Proofs.YthmpgeppicbhlaaDoor
open Go.RowKit

set_option maxRecDepth 100000 in
set_option maxHeartbeats 2000000 in
theorem spec_l12Word (d : Wd) (hd : In64 d.num ∧ (d.tag = 2 → d.num = 0 ∨ d.num = 1)) (w : World) :
    Calls Tryd.prog 26 #[.agg #[.int .i64 d.tag, .int .i64 d.num]] w fun r w' => r = .returned (.string (bx (wordT d))) ∧ Below w.heap.size w w' := by
  obtain ⟨t, n⟩ := d
  obtain ⟨hn, h2⟩ := hd
  have hn : In64 n := hn
  have h2 : t = 2 → n = 0 ∨ n = 1 := h2
  have hg := itoa_len n hn
  have hb : ∀ o, Below w.heap.size w (w.alloc o) := fun o => (Below.refl _ _).alloc (Nat.le_refl _) o
  have HI : ∀ w', Calls Tryd.prog 28 #[.int .i64 n] w' fun e w2 => e = .returned (.string (bx (Lib.itoa n))) ∧ Below w'.heap.size w' w2 := fun w' => dec_all n hn w'
  rcases (by omega : t = 1 ∨ t = 2 ∨ t = 3 ∨ t = 4 ∨ (t < 1 ∨ 4 < t)) with rfl | rfl | rfl | rfl | ht
  · rw [show wordT ⟨1, n⟩ = Lib.itoa n from rfl]
    go_enter Tryd.func26, Tryd.ntmps26
    go_wp2_with (first | (go_at_call 28; refine (HI _).mono ?_; rintro e w3 ⟨rfl, hb3⟩))
    go_ret
    exact ⟨rfl, wi_next (hb _) hb3⟩
  · rcases h2 rfl with rfl | rfl
    · go_enter Tryd.func26, Tryd.ntmps26
      go_wp2_with fail
      go_ret
      exact ⟨rfl, (hb _).alloc (by simp) _⟩
    · go_enter Tryd.func26, Tryd.ntmps26
      go_wp2_with fail
      go_ret
      exact ⟨rfl, (hb _).alloc (by simp) _⟩
  · rw [show wordT ⟨3, n⟩ = [112, 105, 100] ++ Lib.itoa n from rfl, ← pid_bytes]
    generalize ht1 : bx (Lib.itoa n) = t1 at *
    have z1 : t1.size ≤ 20 := by rw [← ht1, bx_size]; exact hg
    have q1 : ¬ 9223372036854775807 < 3 + t1.size := by omega
    clear ht1 z1
    go_enter Tryd.func26, Tryd.ntmps26
    go_wp2_with (first | (go_at_call 28; refine (HI _).mono ?_; rintro e w3 ⟨rfl, hb3⟩))
    go_ret
    exact ⟨rfl, wi_next (hb _) hb3⟩
  · rw [show wordT ⟨4, n⟩ = [97, 116] ++ Lib.itoa n from rfl, ← at_bytes]
    generalize ht1 : bx (Lib.itoa n) = t1 at *
    have z1 : t1.size ≤ 20 := by rw [← ht1, bx_size]; exact hg
    have q1 : ¬ 9223372036854775807 < 2 + t1.size := by omega
    clear ht1 z1
    go_enter Tryd.func26, Tryd.ntmps26
    go_wp2_with (first | (go_at_call 28; refine (HI _).mono ?_; rintro e w3 ⟨rfl, hb3⟩))
    go_ret
    exact ⟨rfl, wi_next (hb _) hb3⟩
  · have e0 : wordT ⟨t, n⟩ = [110, 105, 108] := by
      unfold wordT
      show (if t = 1 then _ else if t = 2 then _ else if t = 3 then _ else if t = 4 then _ else _) = _
      rw [if_neg (by omega), if_neg (by omega), if_neg (by omega), if_neg (by omega)]
    rw [e0]
    have b1 : (t == 1) = false := by simp; omega
    have b2 : (t == 2) = false := by simp; omega
    have b3 : (t == 3) = false := by simp; omega
    have b4 : (t == 4) = false := by simp; omega
    clear ht h2
    go_enter Tryd.func26, Tryd.ntmps26
    go_wp2_with fail
    go_ret
    exact ⟨rfl, hb _⟩

def kinds6 : Array Value := #[.string ⟨#[]⟩, .string ⟨#[112, 97, 105, 114]⟩, .string ⟨#[99, 111, 110, 115]⟩, .string ⟨#[101, 110, 118]⟩, .string ⟨#[102, 117, 110]⟩, .string ⟨#[114, 101, 99]⟩]
set_option maxHeartbeats 1000000 in
theorem spec_l12Kinds (w : World) : Calls Tryd.prog 27 #[] w fun r w' => r = .returned (.slice (some ⟨w.heap.size, 0, none⟩) 6 6) ∧ w' = w.alloc (.cells kinds6 9) := by
  go_enter Tryd.func27, Tryd.ntmps27
  go_wp2_with fail
  go_ret
  exact ⟨rfl, rfl⟩
theorem kinds_at {k : Nat} (h1 : 1 ≤ k) (h5 : k ≤ 5) : kinds6[k]? = some (.string (bx (kindB (k : Int)))) := by
  match k, h1, h5 with
  | 1, _, _ | 2, _, _ | 3, _, _ | 4, _, _ | 5, _, _ => rfl
end Go.Proofs.YthmpgeppicbhlaaDoor
