/-
  What DrawWirePut draws: some cells, a word.
  The laws' own enCells.
  The specification's l12Word, l12Kinds, l12Put, WirePut.
-/
import Derived.Test.YtkollpgacheeoaaGreatDoorWpAll40
import Derived.Test.YtkollpgacheeoaaGreatDoorRows
import Derived.Test.YtkollpgacheeoaaGreatDoorWpAll2
import Derived.WalkKit
import Derived.WalkSpells
import Derived.WalkLawsBesides
import Derived.RowKit3
import Derived.Deep.QuietTactic
import Derived.BigQuiet
import Derived.Deep.LoopGhost
import Derived.Test.YtkollpgacheeoaaGreatDoorWiTop
import Derived.Test.YtkollpgacheeoaaGreatDoorWlSpec
namespace Go.Proofs.YtkollpgacheeoaaGreatDoor
open Go.RowKit

set_option maxRecDepth 100000 in
set_option maxHeartbeats 2000000 in
theorem spec_DrawWirePutB (w : World) (len : Nat) (v : Value) (hv : Bytes w w.heap.size len v) :
    Calls Tryz.prog 4 #[v] w fun r w' => ∃ (cs : List Ce) (d : Wd) (vc : Value), r = .returned (.tuple #[vc, .agg #[.int .i64 d.tag, .int .i64 d.num]]) ∧ cs.length ≤ 20 ∧ Cells w' (fun b => w.heap.size ≤ b ∧ b < w'.heap.size) cs vc ∧ Below w.heap.size w w' := by
  have hv1 : ∀ o, Bytes (w.alloc o) (w.alloc o).heap.size len v := fun o => hv.keep ((Below.refl _ _).alloc (Nat.le_refl _) o) (by simp)
  have hB1 : ∀ o, Below w.heap.size w (w.alloc o) := fun o => (Below.refl _ _).alloc (Nat.le_refl _) o
  have hfin : ∀ (w' : World) (t z : Int) (cs : List Ce) (vc : Value), Below w.heap.size w w' → OwnR 6 Ce.cells 48 w' (w.heap.size + 1) cs vc → cs.length ≤ 20 → Cells ((w'.setCell ⟨w.heap.size, 0, none⟩ (.int .i64 t)).setCell ⟨w.heap.size, 1, none⟩ (.int .i64 z)) (fun b => w.heap.size ≤ b ∧ b < ((w'.setCell ⟨w.heap.size, 0, none⟩ (.int .i64 t)).setCell ⟨w.heap.size, 1, none⟩ (.int .i64 z)).heap.size) cs vc ∧ Below w.heap.size w ((w'.setCell ⟨w.heap.size, 0, none⟩ (.int .i64 t)).setCell ⟨w.heap.size, 1, none⟩ (.int .i64 z)) := fun w' t z cs vc hB hO _ =>
    ⟨(OwnR.row hO ce_len).same fun b hb => ⟨set_twoV (by omega), ⟨by omega, by have := hb.2; simpa [World.setCell] using this⟩⟩, (hB.setCell (p := ⟨w.heap.size, 0, none⟩) (Nat.le_refl _) _).setCell (p := ⟨w.heap.size, 1, none⟩) (Nat.le_refl _) _⟩
  go_enter Tryz.func4, Tryz.ntmps4
  go_upto_region 3 with (first
    | (go_at_call 11; refine (spec_l20Open _ len _ (hv1 _)).mono ?_; rintro r w2 ⟨v', len', rfl, hv', hle, rfl⟩; have hR2 : Rd ((w.alloc (boxV ⟨0, 0⟩)).alloc (.cells #[v', .int .i64 0] 66)) (w.heap.size + 1) 0 := (by simpa using rd_openedW hv' hle); have hB2 : Below w.heap.size w ((w.alloc (boxV ⟨0, 0⟩)).alloc (.cells #[v', .int .i64 0] 66)) := (hB1 _).alloc (by simp) _; have hx2 : ((w.alloc (boxV ⟨0, 0⟩)).alloc (.cells #[v', .int .i64 0] 66)).heap[w.heap.size]? = some (boxV ⟨0, 0⟩) := ((below_new (w.alloc (boxV ⟨0, 0⟩)) _).block _ (by simp)).trans (heap_alloc_new w _))
    | (go_at_call 12; refine (rd_heap _ (w.heap.size + 1) 0 hR2 (by omega)).mono ?_; rintro r w3 ⟨cs, vc, rfl, hcl, hO3, hR3, hg3⟩; have hB3 := below_butW hB2 hg3 (by omega); have hx3 := (hg3.block w.heap.size (by simp; omega) (by simp)).trans hx2; (obtain ⟨a3, cap3, rfl⟩ : ∃ a cap, vc = .slice a cs.length cap := (hO3.row ce_len).slice)))
  have hO3' : OwnR 6 Ce.cells 48 w3 (w.heap.size + 1) cs (.slice a3 cs.length cap3) := ow_base hO3 (by simp)
  have hgl : w.heap.size + 1 < w3.heap.size := hR3.lt
  have hxs : w.heap.size < w3.heap.size := by omega
  have hge : ∀ b, (Value.slice a3 cs.length cap3).ownBlock = some b → w.heap.size + 2 ≤ b := fun b hb => by have := (hO3.lt b hb).1; simpa using this
  have hO4 : ∀ w4, w3.grownBy w4 (some (w.heap.size + 1)) → OwnR 6 Ce.cells 48 w4 (w.heap.size + 1) cs (.slice a3 cs.length cap3) := fun w4 hg => ow_base (rd_but hO3 hg (by simp)) (by simp)
  have hB4 : ∀ w4, w3.grownBy w4 (some (w.heap.size + 1)) → Below w.heap.size w w4 := fun w4 hg => below_butW hB3 hg (by omega)
  have hx4 : ∀ w4, w3.grownBy w4 (some (w.heap.size + 1)) → w4.heap[w.heap.size]? = some (boxV ⟨0, 0⟩) := fun w4 hg => (hg.block w.heap.size hxs (by simp)).trans hx3
  clear hx2 hB2 hR2 hg3 hO3 hv hv1
  by_cases h0 : cs.length = 0
  · have hli : ¬ (0 : Int) < (cs.length : Int) := by omega
    clear h0
    go_wp2_with (go_at_call 14; refine (rd_word _ (w.heap.size + 1) _ _ hR3 (by omega) (by omega)).mono ?_; rintro r w4 ⟨t, z, rfl, hR4, hg4⟩; (obtain ⟨⟨k0, k1⟩, kf⟩ := boxV_two (hx4 _ hg4)))
    obtain ⟨f1, f2⟩ := hfin w4 t z cs _ (hB4 _ hg4) (hO4 _ hg4) hcl
    exact bodyPost_ret (v := .tuple #[.slice a3 cs.length cap3, .agg #[.int .i64 t, .int .i64 z]]) (by simp [results, Tryz.results4, go_sem, k0, k1]) rfl ⟨cs, ⟨t, z⟩, _, rfl, hcl, f1, f2⟩
  · have hli : (0 : Int) < (cs.length : Int) := by omega
    have wr1 : IntKind.i64.wrap ((cs.length : Int) - 1) = (cs.length : Int) - 1 := by simp [IntKind.wrap, IntKind.bits, IntKind.signed]; omega
    go_upto_if 17 with (go_at_call 13; refine (rd_pickZ _ (w.heap.size + 1) _ _ hR3 (by omega) (by omega) (by omega)).mono ?_; rintro r w4 ⟨y, rfl, _, hR4, hg4⟩)
    obtain ⟨⟨k0, k1⟩, kf⟩ := boxV_two (hx4 _ hg4)
    by_cases hy : 0 < y
    · have hyi : (0 : Int) < (y : Int) := by omega
      go_wp2_with fail
      obtain ⟨f1, f2⟩ := hfin w4 4 ((cs.length : Int) - 1) cs _ (hB4 _ hg4) (hO4 _ hg4) hcl
      exact bodyPost_ret (v := .tuple #[.slice a3 cs.length cap3, .agg #[.int .i64 4, .int .i64 ((cs.length : Int) - 1)]]) (by simp [results, Tryz.results4, go_sem, k0, k1]) rfl ⟨cs, ⟨4, (cs.length : Int) - 1⟩, _, rfl, hcl, f1, f2⟩
    · have hyi : ¬ (0 : Int) < (y : Int) := by omega
      clear k0 k1 kf
      go_wp2_with (go_at_call 14; refine (rd_word _ (w.heap.size + 1) _ _ hR4 (by omega) (by omega)).mono ?_; rintro r w5 ⟨t, z, rfl, hR5, hg5⟩; have hg45 := ow_grown_trans hg4 hg5; (obtain ⟨⟨k0, k1⟩, kf⟩ := boxV_two (hx4 _ hg45)))
      obtain ⟨f1, f2⟩ := hfin w5 t z cs _ (hB4 _ hg45) (hO4 _ hg45) hcl
      exact bodyPost_ret (v := .tuple #[.slice a3 cs.length cap3, .agg #[.int .i64 t, .int .i64 z]]) (by simp [results, Tryz.results4, go_sem, k0, k1]) rfl ⟨cs, ⟨t, z⟩, _, rfl, hcl, f1, f2⟩
theorem spec_DrawWirePut (w : World) (len : Nat) (v : Value) (hv : Bytes w w.heap.size len v) :
    Calls Tryz.prog 4 #[v] w fun r w' => ∃ (cs : List Ce) (d : Wd) (vc : Value), r = .returned (.tuple #[vc, .agg #[.int .i64 d.tag, .int .i64 d.num]]) ∧ cs.length ≤ 20 ∧ Cells w' (· < w'.heap.size) cs vc ∧ Below w.heap.size w w' :=
  (spec_DrawWirePutB w len v hv).mono fun _ _ ⟨cs, d, vc, h1, h2, h3, h4⟩ => ⟨cs, d, vc, h1, h2, h3.same fun _ hb => ⟨rfl, hb.2⟩, h4⟩
end Go.Proofs.YtkollpgacheeoaaGreatDoor

namespace Go.Proofs.YtkollpgacheeoaaGreatDoor
open Go.RowKit

set_option maxHeartbeats 1000000 in
theorem law_enCells (l : List Ce) (hl : l.length ≤ 1000000) (v1 v2 : Value) (w : World) (S1 S2 : Nat → Prop) (h1 : Cells w S1 l v1) (h2 : Cells w S2 l v2) :
    Calls Tryz.prog 9 #[v1, v2] w fun r w' => r = .returned (.bool true) ∧ Below w.heap.size w w' := by
  obtain ⟨a1, cap1, rfl⟩ := h1.slice
  obtain ⟨a2, cap2, rfl⟩ := h2.slice
  go_enter Tryz.func9, Tryz.ntmps9
  go_wp2_with fail
  go_loopg [5] l.length (fun g i wr => ∃ k : Nat, k + g = l.length ∧ i = .int .i64 k ∧ ∃ n, wr = w.drewN n)
  case atStart => exact ⟨0, by omega, rfl, 0, rfl⟩
  case round =>
    obtain ⟨k, hk, rfl, n, rfl⟩ := hrel
    by_cases hlt : k < l.length
    · obtain ⟨b1, o1, _, rfl, r1⟩ := h1.at k hlt
      obtain ⟨b2, o2, _, rfl, r2⟩ := h2.at k hlt
      have hi : (k : Int) < (l.length : Int) := by omega
      generalize l[k] = c at r1 r2
      obtain ⟨c0, c1, c2, c3, c4, c5⟩ := Ce.six r1
      obtain ⟨d0, d1, d2, d3, d4, d5⟩ := Ce.six r2
      clear r1 r2
      go_wp2_with fail
      go_quiet (fail)
      go_wp2_with fail
      go_roundg (l.length - (k + 1))
      case measure => omega
      case rel => exact ⟨k + 1, by omega, by go_num, n + _, rfl⟩
    · obtain rfl : k = l.length := by omega
      have hi : ¬ (l.length : Int) < (l.length : Int) := by omega
      go_wp2_with fail
      go_ret
      exact ⟨rfl, ⟨rfl, rfl, rfl, Nat.le_refl _, fun _ _ => rfl⟩⟩
end Go.Proofs.YtkollpgacheeoaaGreatDoor

namespace Go.Proofs.YtkollpgacheeoaaGreatDoor
open Go.RowKit

set_option maxRecDepth 100000 in
set_option maxHeartbeats 2000000 in
theorem spec_l12Word (d : Wd) (hd : In64 d.num ∧ (d.tag = 2 → d.num = 0 ∨ d.num = 1)) (w : World) :
    Calls Tryz.prog 43 #[.agg #[.int .i64 d.tag, .int .i64 d.num]] w fun r w' => r = .returned (.string (bx (wordT d))) ∧ Below w.heap.size w w' := by
  obtain ⟨t, n⟩ := d
  obtain ⟨hn, h2⟩ := hd
  have hn : In64 n := hn
  have h2 : t = 2 → n = 0 ∨ n = 1 := h2
  have hg := itoa_len n hn
  have hb : ∀ o, Below w.heap.size w (w.alloc o) := fun o => (Below.refl _ _).alloc (Nat.le_refl _) o
  have HI : ∀ w', Calls Tryz.prog 45 #[.int .i64 n] w' fun e w2 => e = .returned (.string (bx (Lib.itoa n))) ∧ Below w'.heap.size w' w2 := fun w' => dec_all n hn w'
  rcases (by omega : t = 1 ∨ t = 2 ∨ t = 3 ∨ t = 4 ∨ (t < 1 ∨ 4 < t)) with rfl | rfl | rfl | rfl | ht
  · rw [show wordT ⟨1, n⟩ = Lib.itoa n from rfl]
    go_enter Tryz.func43, Tryz.ntmps43
    go_wp2_with (first | (go_at_call 45; refine (HI _).mono ?_; rintro e w3 ⟨rfl, hb3⟩))
    go_ret
    exact ⟨rfl, wi_next (hb _) hb3⟩
  · rcases h2 rfl with rfl | rfl
    · go_enter Tryz.func43, Tryz.ntmps43
      go_wp2_with fail
      go_ret
      exact ⟨rfl, (hb _).alloc (by simp) _⟩
    · go_enter Tryz.func43, Tryz.ntmps43
      go_wp2_with fail
      go_ret
      exact ⟨rfl, (hb _).alloc (by simp) _⟩
  · rw [show wordT ⟨3, n⟩ = [112, 105, 100] ++ Lib.itoa n from rfl, ← pid_bytes]
    generalize ht1 : bx (Lib.itoa n) = t1 at *
    have z1 : t1.size ≤ 20 := by rw [← ht1, bx_size]; exact hg
    have q1 : ¬ 9223372036854775807 < 3 + t1.size := by omega
    clear ht1 z1
    go_enter Tryz.func43, Tryz.ntmps43
    go_wp2_with (first | (go_at_call 45; refine (HI _).mono ?_; rintro e w3 ⟨rfl, hb3⟩))
    go_ret
    exact ⟨rfl, wi_next (hb _) hb3⟩
  · rw [show wordT ⟨4, n⟩ = [97, 116] ++ Lib.itoa n from rfl, ← at_bytes]
    generalize ht1 : bx (Lib.itoa n) = t1 at *
    have z1 : t1.size ≤ 20 := by rw [← ht1, bx_size]; exact hg
    have q1 : ¬ 9223372036854775807 < 2 + t1.size := by omega
    clear ht1 z1
    go_enter Tryz.func43, Tryz.ntmps43
    go_wp2_with (first | (go_at_call 45; refine (HI _).mono ?_; rintro e w3 ⟨rfl, hb3⟩))
    go_ret
    exact ⟨rfl, wi_next (hb _) hb3⟩
  · have e0 : wordT ⟨t, n⟩ = [110, 105, 108] := by
      unfold wordT
      show (if t = 1 then _ else if t = 2 then _ else if t = 3 then _ else if t = 4 then _ else _) = _
      rw [if_neg (by omega), if_neg (by omega), if_neg (by omega), if_neg (by omega)]
    rw [e0]
    have b1 : (t == 1) = false := by simp; omega
    have b2 : (t == 2) = false := by simp; omega
    have b3 : (t == 3) = false := by simp; omega
    have b4 : (t == 4) = false := by simp; omega
    clear ht h2
    go_enter Tryz.func43, Tryz.ntmps43
    go_wp2_with fail
    go_ret
    exact ⟨rfl, hb _⟩

def kinds6 : Array Value := #[.string ⟨#[]⟩, .string ⟨#[112, 97, 105, 114]⟩, .string ⟨#[99, 111, 110, 115]⟩, .string ⟨#[101, 110, 118]⟩, .string ⟨#[102, 117, 110]⟩, .string ⟨#[114, 101, 99]⟩]
set_option maxHeartbeats 1000000 in
theorem spec_l12Kinds (w : World) : Calls Tryz.prog 44 #[] w fun r w' => r = .returned (.slice (some ⟨w.heap.size, 0, none⟩) 6 6) ∧ w' = w.alloc (.cells kinds6 9) := by
  go_enter Tryz.func44, Tryz.ntmps44
  go_wp2_with fail
  go_ret
  exact ⟨rfl, rfl⟩
theorem kinds_at {k : Nat} (h1 : 1 ≤ k) (h5 : k ≤ 5) : kinds6[k]? = some (.string (bx (kindB (k : Int)))) := by
  match k, h1, h5 with
  | 1, _, _ | 2, _, _ | 3, _, _ | 4, _, _ | 5, _, _ => rfl
end Go.Proofs.YtkollpgacheeoaaGreatDoor

