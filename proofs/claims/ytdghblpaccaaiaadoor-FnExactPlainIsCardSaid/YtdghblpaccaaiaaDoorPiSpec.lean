/-
  The specification's l15Atom, l5Waits, l15Parts, l15Is.
-/
import Derived.Test.YtdghblpaccaaiaaDoorPiMath
import Derived.Test.YtdghblpaccaaiaaDoorExBox
import Derived.Deep.LoopGhost
namespace Go.Proofs.YtdghblpaccaaiaaDoor
open Go.RowKit

set_option maxHeartbeats 600000 in
theorem spec_l15Atom (e : Ex) (s : Value) (w : World) : Calls Tryd.prog 18 #[e.val s] w fun r w' => r = .returned (.bool (atomK e.kind)) ∧ Below w.heap.size w w' := by
  go_enter Tryd.func18, Tryd.ntmps18
  go_wp2_with fail
  all_goals
    go_ret
    refine ⟨ret_bool ?_, (Below.refl _ _).alloc (Nat.le_refl _) _⟩
    unfold atomK
    simp_all
set_option maxHeartbeats 600000 in
theorem spec_l5Waits (e : Ex) (a : Option Addr) (cap : Nat) (w : World) : Calls Tryd.prog 24 #[e.val (.slice a e.kids.length cap)] w fun r w' => r = .returned (.int .i64 ((if e.kind = 6 ∨ e.kind = 8 ∨ e.kind = 14 then 1 else e.kids.length : Nat) : Int)) ∧ Below w.heap.size w w' := by
  go_enter Tryd.func24, Tryd.ntmps24
  go_wp2_with fail
  all_goals
    go_ret
    refine ⟨?_, (Below.refl _ _).alloc (Nat.le_refl _) _⟩
    simp_all
set_option maxHeartbeats 600000 in
theorem spec_l15Parts (e : Ex) (a : Option Addr) (cap : Nat) (w : World) : Calls Tryd.prog 17 #[e.val (.slice a e.kids.length cap)] w fun r w' => r = .returned (.int .i64 (partsN e.kind e.kids.length : Int)) ∧ Below w.heap.size w w' := by
  go_enter Tryd.func17, Tryd.ntmps17
  go_wp2_with (go_at_call 24; refine (spec_l5Waits e a cap _).mono ?_; rintro r w2 ⟨rfl, hb2⟩)
  all_goals
    go_ret
    refine ⟨?_, ?_⟩
    · unfold partsN
      simp_all
    · first
        | exact (Below.refl _ _).alloc (Nat.le_refl _) _
        | exact below_of_box (box_start hb2)

/-- What l15Is does with an expression. -/
def SpecPlain (e : Ex) : Prop := ∀ (w : World) (s : Value) (d : Int), Lies w (· < w.heap.size) e.kids s → sizeM e d ≤ 60 →
  Calls Tryd.prog 11 #[e.val s] w fun r w' => r = .returned (.bool (plainM e)) ∧ Below w.heap.size w w'
theorem box_trans {w wr w2 : World} {o : Obj} (h : Below (w.heap.size + 1) (w.alloc o) wr) (h2 : Below wr.heap.size wr w2) : Below (w.heap.size + 1) (w.alloc o) w2 := below_box_trans h h2

set_option maxRecDepth 100000 in
set_option maxHeartbeats 4000000 in
theorem plain_walk (e : Ex) (ih : ∀ x ∈ e.kids, SpecPlain x) : SpecPlain e := by
  intro w s d hv hsz
  obtain ⟨hlen, hparts⟩ := ok_parts e d hsz
  have hn60 : (e.kids.length : Int) ≤ 60 := by
    rw [hlen]
    unfold kidsN
    repeat' split
    all_goals omega
  obtain ⟨a, cap, rfl⟩ := hv.slice
  have HM : Hid (plainM e = plainAll (partsN e.kind e.kids.length - 0) (e.kids.drop 0)) := plainM_eq e
  have HP := fun w => spec_l15Parts e a cap w
  generalize hPN : partsN e.kind e.kids.length = P at *
  clear hPN
  go_enter Tryd.func11, Tryd.ntmps11
  go_wp2_with fail
  go_loopg [3] e.kids.length (fun m i wr => ∃ k : Nat, k + m = e.kids.length ∧ i = .int .i64 (k : Int) ∧ Hid (plainM e = plainAll (P - k) (e.kids.drop k)) ∧ Below (w.heap.size + 1) (w.alloc (.cells #[.int .i64 e.kind, .string e.name, .string e.tail, .int .i64 e.num, .slice a e.kids.length cap] 29)) wr)
  case atStart => exact ⟨0, by omega, rfl, HM, Below.refl _ _⟩
  case round =>
    obtain ⟨k, hk, rfl, HE, hB⟩ := hrel
    have hbw := below_of_box hB
    obtain ⟨p0, p1, p2, p3, p4⟩ := box5 hB
    by_cases hlt : k < e.kids.length
    · have hki : (k : Int) < (e.kids.length : Int) := by omega
      obtain ⟨b, off, cap2, sa, hS, hsl, hra, hla⟩ := hv.at (i := k) (e := e.kids[k]) (List.getElem?_eq_getElem hlt)
      obtain ⟨rfl, rfl⟩ : a = some ⟨b, off, none⟩ ∧ cap = cap2 := by simpa using hsl
      have hiha := ih e.kids[k] (List.getElem_mem hlt)
      have hpa := hparts e.kids[k] (List.getElem_mem hlt)
      have HX : Hid (plainAll (P - k) (e.kids.drop k) = _) := plainAll_drop e.kids P k hlt
      obtain ⟨c0, c1, c2, c3, c4⟩ := Ex.five (rangeAt_same (hbw.block b hS) hra)
      have HC : Hid (∀ w', Below wr.heap.size wr w' → (w'.cell? ⟨w.heap.size, 0, none⟩ = some (.int .i64 e.kind) ∧ w'.cell? ⟨w.heap.size, 1, none⟩ = some (.string e.name) ∧ w'.cell? ⟨w.heap.size, 2, none⟩ = some (.string e.tail) ∧ w'.cell? ⟨w.heap.size, 3, none⟩ = some (.int .i64 e.num) ∧ w'.cell? ⟨w.heap.size, 4, none⟩ = some (.slice (some ⟨b, off, none⟩) e.kids.length cap)) ∧ (w'.cell? ⟨b, off + k * 5, none⟩ = some (.int .i64 e.kids[k].kind) ∧ w'.cell? ⟨b, off + k * 5 + 1, none⟩ = some (.string e.kids[k].name) ∧ w'.cell? ⟨b, off + k * 5 + 2, none⟩ = some (.string e.kids[k].tail) ∧ w'.cell? ⟨b, off + k * 5 + 3, none⟩ = some (.int .i64 e.kids[k].num) ∧ w'.cell? ⟨b, off + k * 5 + 4, none⟩ = some sa)) := fun w' h =>
        ⟨box5 (box_trans hB h), Ex.five (rangeAt_same ((hbw.trans (h.mono hbw.size)).block b hS) hra)⟩
      have hla0 := hla.keep hbw hbw.size
      have hAt := fun w => spec_l15Atom e.kids[k] sa w
      generalize e.kids[k] = x at *
      clear hra hla hsl HM
      cases hpx : plainM x with
      | false =>
        rw [hpx] at HX
        go_wp2_with (go_at_call 11; refine (hiha _ _ _ hla0 hpa).mono ?_; rintro r w2 ⟨rfl, hb2⟩; rw [hpx])
        go_ret
        exact ⟨ret_bool (by rw [HE.out, HX.out]; rfl), hbw.trans (hb2.mono hbw.size)⟩
      | true =>
        rw [hpx] at HX
        by_cases hkp : k < P
        · have hkpi : (k : Int) < (P : Int) := by omega
          have hdk : decide (P ≤ k) = false := by simp; omega
          rw [hdk] at HX
          cases hat : atomK x.kind with
          | false =>
            rw [hat] at HX hAt
            go_wp2_with (first
              | (go_at_call 11; refine (hiha _ _ _ hla0 hpa).mono ?_; rintro r w2 ⟨rfl, hb2⟩; rw [hpx]; clear p0 p1 p2 p3 p4 c0 c1 c2 c3 c4; (obtain ⟨⟨p0, p1, p2, p3, p4⟩, c0, c1, c2, c3, c4⟩ := HC.out _ hb2); have hd2 := hb2)
              | (go_at_call 17; refine (HP _).mono ?_; rintro r w3 ⟨rfl, hb3⟩; have hd3 := hd2.trans (hb3.mono hd2.size); clear p0 p1 p2 p3 p4 c0 c1 c2 c3 c4; (obtain ⟨⟨p0, p1, p2, p3, p4⟩, c0, c1, c2, c3, c4⟩ := HC.out _ hd3))
              | (go_at_call 18; refine (hAt _).mono ?_; rintro r w4 ⟨rfl, hb4⟩; have hd4 := hd3.trans (hb4.mono hd3.size)))
            go_ret
            exact ⟨ret_bool (by rw [HE.out, HX.out]; rfl), hbw.trans (hd4.mono hbw.size)⟩
          | true =>
            rw [hat] at HX hAt
            go_wp2_with (first
              | (go_at_call 11; refine (hiha _ _ _ hla0 hpa).mono ?_; rintro r w2 ⟨rfl, hb2⟩; rw [hpx]; clear p0 p1 p2 p3 p4 c0 c1 c2 c3 c4; (obtain ⟨⟨p0, p1, p2, p3, p4⟩, c0, c1, c2, c3, c4⟩ := HC.out _ hb2); have hd2 := hb2)
              | (go_at_call 17; refine (HP _).mono ?_; rintro r w3 ⟨rfl, hb3⟩; have hd3 := hd2.trans (hb3.mono hd2.size); clear p0 p1 p2 p3 p4 c0 c1 c2 c3 c4; (obtain ⟨⟨p0, p1, p2, p3, p4⟩, c0, c1, c2, c3, c4⟩ := HC.out _ hd3))
              | (go_at_call 18; refine (hAt _).mono ?_; rintro r w4 ⟨rfl, hb4⟩; have hd4 := hd3.trans (hb4.mono hd3.size)))
            go_roundg (e.kids.length - (k + 1))
            case measure => omega
            case rel => exact ⟨k + 1, by omega, by go_num, by show _ = _; rw [HE.out, HX.out]; rfl, box_trans hB hd4⟩
        · have hkpi : ¬ (k : Int) < (P : Int) := by omega
          have hdk : decide (P ≤ k) = true := by simp; omega
          rw [hdk] at HX
          go_wp2_with (first
            | (go_at_call 11; refine (hiha _ _ _ hla0 hpa).mono ?_; rintro r w2 ⟨rfl, hb2⟩; rw [hpx]; clear p0 p1 p2 p3 p4 c0 c1 c2 c3 c4; (obtain ⟨⟨p0, p1, p2, p3, p4⟩, c0, c1, c2, c3, c4⟩ := HC.out _ hb2); have hd2 := hb2)
            | (go_at_call 17; refine (HP _).mono ?_; rintro r w3 ⟨rfl, hb3⟩; have hd3 := hd2.trans (hb3.mono hd2.size)))
          go_roundg (e.kids.length - (k + 1))
          case measure => omega
          case rel => exact ⟨k + 1, by omega, by go_num, by show _ = _; rw [HE.out, HX.out]; rfl, box_trans hB hd3⟩
    · have hki : ¬ (k : Int) < (e.kids.length : Int) := by omega
      have HZ : Hid (plainM e = true) := by show _ = _; rw [HE.out, plainAll_end _ _ _ (by omega)]
      clear HE HM
      go_wp2_with fail
      go_ret
      exact ⟨ret_bool HZ.out.symm, hbw⟩
theorem spec_l15Is (e : Ex) : SpecPlain e := by
  induction e using Ex.ind with
  | h e ih => exact plain_walk e ih
end Go.Proofs.YtdghblpaccaaiaaDoor
