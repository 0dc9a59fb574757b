/-
  The specification's l1Cut, l1Find.
  Small things of numbers and texts.
  A text's bytes as a list.
-/
import Derived.Test.YthikfinliiaecaaGreatDoorFgAll33
import Derived.Test.YthikfinliiaecaaGreatDoorFgAll36
import Derived.Deep.LoopGhost
import Derived.Maps.AppendAt
import Derived.WalkKit
import Derived.WalkSpells
import Derived.Test.YthikfinliiaecaaGreatDoorFgAll14
namespace Go.Proofs.YthikfinliiaecaaGreatDoor
open Go.RowKit

theorem own_slice {w : World} {B n s : Nat} {e : TypeId} {v : Value} {xs : List Value} (h : w.ownsRow B e s v n xs) : ∃ a c, v = .slice a n c := by
  rcases h.2 with ⟨rfl, hn⟩ | ⟨g, c, cur, rfl, _⟩
  · rw [hn]; exact ⟨none, 0, rfl⟩
  · exact ⟨_, c, rfl⟩
theorem str_info : ∃ i, Tryz.prog.info? 9 = some i ∧ i.zero = some (.string ⟨#[]⟩) ∧ i.size = 1 ∧ i.bytes = 16 := by
  have hinfo : (Tryz.prog.info? 9).map (fun i => (i.zero, i.size, i.bytes)) = some (some (.string ⟨#[]⟩), 1, 16) := by kernel_rfl
  obtain ⟨i, hi, hz⟩ := Option.map_eq_some_iff.1 hinfo
  simp only [Prod.mk.injEq] at hz
  exact ⟨i, hi, hz.1, hz.2.1, hz.2.2⟩
def strsV (l : List (List UInt8)) : List Value := l.map fun p => .string (bx p)
theorem strsV_length (l : List (List UInt8)) : (strsV l).length = l.length := by simp [strsV]
theorem byte_at (l : List UInt8) (i : Nat) (h' : i < (bx l).size) : (bx l)[i]'h' = l[i]'(by rw [bx_size] at h'; exact h') := rfl
theorem drop_split {l : List UInt8} {a i : Nat} (h1 : a ≤ i) (h2 : i < l.length) : l.drop a = (l.drop a).take (i - a) ++ l[i] :: l.drop (i + 1) := by
  conv => lhs; rw [← List.take_append_drop (i - a) (l.drop a)]
  rw [List.drop_drop, show a + (i - a) = i by omega, List.drop_eq_getElem_cons h2]

theorem grown_below {w W w5 : World} {b n sz : Nat} {e : TypeId} {v : Value} {xs : List Value} {o : Obj} (hB : Below b w W) (hr : W.ownsRow b e sz v n xs) (hg : (W.alloc o).grownBy w5 v.ownBlock) (hb : b ≤ W.heap.size := by have := hB.size; omega) : Below b w w5 := by
  have h1 := hB.alloc hb o
  exact h1.grown hg (by simp; omega) (fun k hk => (World.ownsRow.lt hr k hk).1)
set_option maxRecDepth 100000 in
set_option maxHeartbeats 4000000 in
theorem spec_l1Cut (l : List UInt8) (b : UInt8) (most : Nat) (hl : l.length ≤ 1048576) (hm : most ≤ 1048577) (w : World) :
    Calls Tryz.prog 21 #[.string (bx l), .int .u8 (b.toNat : Int), .int .i64 (most : Int)] w fun r w' => (∃ v, r = .returned v ∧ w'.ownsRow w.heap.size 9 1 v (cutG b most l).length (strsV (cutG b most l))) ∧ Below w.heap.size w w' := by
  obtain ⟨i0, hi0, hz1, hz2, hz3⟩ := str_info
  obtain ⟨t, hsz, hHat, hHex, e⟩ : ∃ t : ByteArray, t.size = l.length ∧ Hid (∀ i (h : i < l.length) (h' : i < t.size), t[i]'h' = l[i]) ∧ Hid (∀ a i, t.extract a i = bx ((l.drop a).take (i - a))) ∧ bx l = t := ⟨bx l, bx_size l, fun i _ h' => byte_at l i h', fun a i => bx_extract l a i, rfl⟩
  rw [e]
  clear e
  generalize hC : cutG b most l = C
  have HC : Hid (cutG b most l = C) := hC
  clear hC
  go_enter Tryz.func21, Tryz.ntmps21
  go_wp2_with fail
  go_loopg [7, 8, 9] l.length (fun g v a i wr => ∃ (k f : Nat) (out : List (List UInt8)), k + g = l.length ∧ f ≤ k ∧ a = .int .i64 (f : Int) ∧ i = .int .i64 (k : Int) ∧ wr.ownsRow w.heap.size 9 1 v out.length (strsV out) ∧ out.length ≤ most ∧ out.length ≤ k ∧ Hid (C = out ++ cutG b (most - out.length) (l.drop f)) ∧ Hid (b ∉ (l.drop f).take (k - f)) ∧ Below w.heap.size w wr)
  case atStart =>
    have hst := World.ownsRow_made (base := w.heap.size) (e := 9) (size := 1) w #[] 0 (by simp) (Nat.zero_le _) rfl
    exact ⟨0, 0, [], by omega, Nat.le_refl _, rfl, rfl, by simpa [strsV] using hst, Nat.zero_le _, Nat.zero_le _, HC.out.symm, (fun h => by simp at h), (Below.refl _ _).alloc (Nat.le_refl _) _⟩
  case round =>
    obtain ⟨k, f, out, hk, hf, rfl, rfl, hrow, hom, hok, hCo, hno, hB⟩ := hrel
    obtain ⟨va, vc, rfl⟩ := own_slice hrow
    have hzB := hB.size
    by_cases hlt : k < l.length
    · have hki : (k : Int) < (l.length : Int) := by omega
      by_cases hlo : out.length < most
      · have hmi : (out.length : Int) < (most : Int) := by omega
        have hkt : k < t.size := by omega
        have wr1 : IntKind.i64.wrap ((k : Int) + 1) = (k : Int) + 1 := by simp [IntKind.wrap, IntKind.bits, IntKind.signed]; omega
        have hby : t[k]'hkt = l[k] := hHat.out k hlt hkt
        by_cases hb : l[k] = b
        · have hq : ((t[k]'hkt).toNat : Int) = (b.toNat : Int) := by rw [hby, hb]
          have hfi : (f : Int) ≤ (k : Int) := by omega
          have hkl : (k : Int) ≤ (l.length : Int) := by omega
          have hx : Hid (t.extract f k = bx ((l.drop f).take (k - f))) := hHex.out f k
          have hC2 : Hid (C = (out ++ [(l.drop f).take (k - f)]) ++ cutG b (most - (out ++ [(l.drop f).take (k - f)]).length) (l.drop (k + 1))) := by
            have hd' : l.drop f = (l.drop f).take (k - f) ++ b :: l.drop (k + 1) := by
              rw [← hb]
              exact drop_split hf hlt
            have h2 := cutG_hit (l.drop (k + 1)) hno.out (most - out.length - 1)
            rw [← hd', show most - out.length - 1 + 1 = most - out.length by omega] at h2
            show _ = _
            rw [hCo.out, h2, List.length_append, List.length_singleton, show most - (out.length + 1) = most - out.length - 1 by omega, List.append_assoc]
            rfl
          have hsv : strsV (out ++ [(l.drop f).take (k - f)]) = strsV out ++ [.string (t.extract f k)] := by rw [hx.out]; simp [strsV]
          have hsl := strsV_length out
          have HS : Hid (strsV (out ++ [(l.drop f).take (k - f)]) = strsV out ++ [.string (t.extract f k)]) := hsv
          have hrow2 : wr.ownsRow w.heap.size 9 1 (.slice va out.length vc) out.length (strsV out) := hrow
          have hno2 : Hid (b ∉ (l.drop (k + 1)).take (k + 1 - (k + 1))) := fun h => by simp at h
          clear hrow hx hsv hb hby hno hCo
          generalize strsV out = xs at *
          go_wp2_with (at_builtin; refine wpList_append_own _ rfl _ _ 51 rfl w.heap.size 9 i0 (.string ⟨#[]⟩) 1 16 Tryz.underlying51 hi0 hz1 hz2 hz3 rfl (by decide) _ out.length xs rfl (hrow2.alloc _) ⟨wr.heap.size, 0, none⟩ 1 1 [.string (t.extract f k)] rfl rfl (cell_one_new _ _ _) (fun x hx => by simp at hx; subst hx; rfl) (by unfold maxLen; omega) (by omega) (by simp; omega) ?_; intro v5 w5 hown5 hgr5 _)
          go_roundg (l.length - (k + 1))
          case measure => omega
          case rel => exact ⟨k + 1, k + 1, out ++ [(l.drop f).take (k - f)], by omega, Nat.le_refl _, by go_num, by go_num, by rw [HS.out, List.length_append]; exact hown5, by rw [List.length_append, List.length_singleton]; omega, by rw [List.length_append, List.length_singleton]; omega, hC2, hno2, grown_below hB hrow2 hgr5⟩
        · have hq : ((t[k]'hkt).toNat : Int) ≠ (b.toNat : Int) := by
            rw [hby]
            intro e
            exact hb (UInt8.toNat_inj.1 (by omega))
          have hn2 : Hid (b ∉ (l.drop f).take (k + 1 - f)) := by
            intro h
            rw [show k + 1 - f = (k - f) + 1 by omega, List.take_succ_eq_append_getElem (by rw [List.length_drop]; omega)] at h
            rcases List.mem_append.1 h with h | h
            · exact hno.out h
            · simp at h
              exact hb (by rw [h]; congr 1; omega)
          clear hby hno hb
          go_wp2_with fail
          go_roundg (l.length - (k + 1))
          case measure => omega
          case rel => exact ⟨k + 1, f, out, by omega, by omega, rfl, by go_num, hrow, hom, by omega, hCo, hn2, hB⟩
      · have hmi : ¬ (out.length : Int) < (most : Int) := by omega
        have hC3 : C = out ++ [l.drop f] := by rw [hCo.out, show most - out.length = 0 by omega]; rfl
        have hx : Hid (t.extract f l.length = bx (l.drop f)) := by
          show _ = _
          rw [hHex.out f l.length, List.take_of_length_le (by rw [List.length_drop]; exact Nat.le_refl _)]
        have HS : Hid (strsV C = strsV out ++ [.string (t.extract f l.length)] ∧ C.length = out.length + 1) := by
          rw [hC3, hx.out]
          exact ⟨by simp [strsV], by simp⟩
        have hfl : (f : Int) ≤ (l.length : Int) := by omega
        have hrow2 : wr.ownsRow w.heap.size 9 1 (.slice va out.length vc) out.length (strsV out) := hrow
        have hsl := strsV_length out
        clear hrow hx hno hCo hC3
        generalize strsV out = xs at *
        go_wp2_with (at_builtin; refine wpList_append_own _ rfl _ _ 51 rfl w.heap.size 9 i0 (.string ⟨#[]⟩) 1 16 Tryz.underlying51 hi0 hz1 hz2 hz3 rfl (by decide) _ out.length xs rfl (hrow2.alloc _) ⟨wr.heap.size, 0, none⟩ 1 1 [.string (t.extract f l.length)] rfl rfl (cell_one_new _ _ _) (fun x hx => by simp at hx; subst hx; rfl) (by unfold maxLen; omega) (by omega) (by simp; omega) ?_; intro v5 w5 hown5 hgr5 _)
        go_ret
        exact ⟨⟨_, rfl, by rw [HS.out.1, HS.out.2]; exact hown5⟩, grown_below hB hrow2 hgr5⟩
    · obtain rfl : k = l.length := by omega
      have hki : ¬ (l.length : Int) < (l.length : Int) := by omega
      have hC3 : C = out ++ [l.drop f] := by
        have hn := hno.out
        rw [List.take_of_length_le (by rw [List.length_drop]; exact Nat.le_refl _)] at hn
        rw [hCo.out, cutG_none hn]
      have hx : Hid (t.extract f l.length = bx (l.drop f)) := by
        show _ = _
        rw [hHex.out f l.length, List.take_of_length_le (by rw [List.length_drop]; exact Nat.le_refl _)]
      have HS : Hid (strsV C = strsV out ++ [.string (t.extract f l.length)] ∧ C.length = out.length + 1) := by
        rw [hC3, hx.out]
        exact ⟨by simp [strsV], by simp⟩
      have hfl : (f : Int) ≤ (l.length : Int) := by omega
      have hrow2 : wr.ownsRow w.heap.size 9 1 (.slice va out.length vc) out.length (strsV out) := hrow
      have hsl := strsV_length out
      clear hrow hx hno hCo hC3
      generalize strsV out = xs at *
      go_wp2_with (at_builtin; refine wpList_append_own _ rfl _ _ 51 rfl w.heap.size 9 i0 (.string ⟨#[]⟩) 1 16 Tryz.underlying51 hi0 hz1 hz2 hz3 rfl (by decide) _ out.length xs rfl (hrow2.alloc _) ⟨wr.heap.size, 0, none⟩ 1 1 [.string (t.extract f l.length)] rfl rfl (cell_one_new _ _ _) (fun x hx => by simp at hx; subst hx; rfl) (by unfold maxLen; omega) (by omega) (by simp; omega) ?_; intro v5 w5 hown5 hgr5 _)
      go_ret
      exact ⟨⟨_, rfl, by rw [HS.out.1, HS.out.2]; exact hown5⟩, grown_below hB hrow2 hgr5⟩
theorem row_strs {w : World} {B : Nat} {v : Value} {C : List (List UInt8)} (h : w.ownsRow B 9 1 v C.length (strsV C)) (h0 : 0 < C.length) : ∃ g cap, v = .slice (some ⟨g, 0, none⟩) C.length cap ∧ B ≤ g ∧ g < w.heap.size ∧ ∀ j (hj : j < C.length), w.cell? ⟨g, j, none⟩ = some (.string (bx C[j])) := by
  have h2 := h
  obtain ⟨_, ⟨_, hn⟩ | ⟨g, cap, cur, rfl, hg, hh, _⟩⟩ := h2
  · omega
  · refine ⟨g, cap, rfl, hg, (Array.getElem?_eq_some_iff.1 hh).1, fun j hj => ?_⟩
    have := (ow_cell h j (by rw [strsV_length]; exact hj)).1
    rw [this]
    simp [strsV]
end Go.Proofs.YthikfinliiaecaaGreatDoor

namespace Go.Proofs.YthikfinliiaecaaGreatDoor
open Go.RowKit

theorem ck_wr (z : Int) (h1 : -9223372036854775808 ≤ z) (h2 : z < 9223372036854775808) : IntKind.i64.wrap z = z := by
  simp [IntKind.wrap, IntKind.bits, IntKind.signed]
  omega
end Go.Proofs.YthikfinliiaecaaGreatDoor

namespace Go.Proofs.YthikfinliiaecaaGreatDoor
theorem bx_toList (l : List UInt8) : (bx l).toList = l := ByteArray.toList_eq (bx l)
end Go.Proofs.YthikfinliiaecaaGreatDoor

