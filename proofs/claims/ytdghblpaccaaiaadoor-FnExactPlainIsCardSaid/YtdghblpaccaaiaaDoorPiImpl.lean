/-
  The program's isAtOnce, waitedFor, isPlain, PlainIs.
-/
import Derived.Test.YtdghblpaccaaiaaDoorPiMath
import Derived.Test.YtdghblpaccaaiaaDoorExBox
import Derived.Test.YtdghblpaccaaiaaDoorExTi
import Derived.Test.YtdghblpaccaaiaaDoorPiSpec
import Derived.Deep.LoopGhost
import Derived.Deep.Cut
namespace Go.Proofs.YtdghblpaccaaiaaDoor
open Go.RowKit

set_option maxHeartbeats 600000 in
theorem impl_isAtOnce (k : Int) (w : World) : Calls Tryd.prog 21 #[.int .i64 k] w fun r w' => r = .returned (.bool (atomK k)) ∧ w' = w := by
  go_enter Tryd.func21, Tryd.ntmps21
  go_wp2_with fail
  all_goals
    go_ret
    refine ⟨ret_bool ?_, rfl⟩
    unfold atomK
    simp_all
set_option maxHeartbeats 1000000 in
theorem impl_waitedFor (e : Ex) (a : Addr) (cap : Nat) (hcap : e.kids.length ≤ cap) (h1 : e.kind = 8 ∨ e.kind = 14 → 1 ≤ e.kids.length) (w : World) :
    Calls Tryd.prog 20 #[e.val (.slice (some a) e.kids.length cap)] w fun r w' => (∃ a' cap', r = .returned (.slice a' (partsN e.kind e.kids.length) cap') ∧ (0 < partsN e.kind e.kids.length → a' = some a)) ∧ Below w.heap.size w w' := by
  have hb0 : ∀ o, Below w.heap.size w (w.alloc o) := fun o => (Below.refl _ _).alloc (Nat.le_refl _) o
  by_cases h8 : e.kind = 8 ∨ e.kind = 14
  · have hl1 := h1 h8
    have hc1 : (1 : Int) ≤ (cap : Int) := by omega
    have hP : Hid (partsN e.kind e.kids.length = 1) := by
      show _ = _
      unfold partsN
      rw [if_neg (by omega), if_pos h8]
    have h8' : (e.kind == 8) = true ∨ (e.kind == 8) = false ∧ (e.kind == 14) = true := by
      by_cases h : e.kind = 8
      · exact Or.inl (by simpa using h)
      · exact Or.inr ⟨by simpa using h, by simp; omega⟩
    clear h8 h1
    rcases h8' with k8 | ⟨k8, k14⟩
    all_goals
      go_enter Tryd.func20, Tryd.ntmps20
      go_wp2_with fail
      go_ret
      refine ⟨⟨_, _, by rw [hP.out]; rfl, fun _ => ?_⟩, hb0 _⟩
      first | rfl | simp [Addr.add]
  · have k8 : (e.kind == 8) = false := by simp; omega
    have k14 : (e.kind == 14) = false := by simp; omega
    by_cases h4 : e.kind = 4 ∨ e.kind = 6 ∨ e.kind = 7
    · have hP : Hid (partsN e.kind e.kids.length = 0) := by
        show _ = _
        unfold partsN
        rw [if_pos h4]
      have h4' : (e.kind == 4) = true ∨ (e.kind == 4) = false ∧ (e.kind == 6) = true ∨ (e.kind == 4) = false ∧ (e.kind == 6) = false ∧ (e.kind == 7) = true := by
        by_cases h : e.kind = 4
        · exact Or.inl (by simpa using h)
        · by_cases h6 : e.kind = 6
          · exact Or.inr (Or.inl ⟨by simpa using h, by simpa using h6⟩)
          · exact Or.inr (Or.inr ⟨by simpa using h, by simpa using h6, by simp; omega⟩)
      clear h4 h8 h1
      rcases h4' with k4 | ⟨k4, k6⟩ | ⟨k4, k6, k7⟩
      all_goals
        go_enter Tryd.func20, Tryd.ntmps20
        go_wp2_with fail
        go_ret
        exact ⟨⟨_, _, by rw [hP.out]; rfl, fun h => by rw [hP.out] at h; omega⟩, hb0 _⟩
    · have hP : Hid (partsN e.kind e.kids.length = e.kids.length) := by
        show _ = _
        unfold partsN
        rw [if_neg h4, if_neg h8]
      have k4 : (e.kind == 4) = false := by simp; omega
      have k6 : (e.kind == 6) = false := by simp; omega
      have k7 : (e.kind == 7) = false := by simp; omega
      clear h4 h8 h1
      go_enter Tryd.func20, Tryd.ntmps20
      go_wp2_with fail
      go_ret
      exact ⟨⟨_, _, by rw [hP.out]; rfl, fun _ => rfl⟩, hb0 _⟩

/-- What isPlain does with an expression. -/
def ImplPlain (e : Ex) : Prop := ∀ (w : World) (s : Value) (d : Int), Tight w (· < w.heap.size) e.kids s → sizeM e d ≤ 60 →
  Calls Tryd.prog 14 #[e.val s] w fun r w' => r = .returned (.bool (plainM e)) ∧ Below w.heap.size w w'

set_option maxRecDepth 100000 in
set_option maxHeartbeats 4000000 in
theorem isPlain_walk (e : Ex) (ih : ∀ x ∈ e.kids, ImplPlain x) : ImplPlain e := by
  intro w s d hv hsz
  obtain ⟨hlen, hparts⟩ := ok_parts e d hsz
  have hn60 : (e.kids.length : Int) ≤ 60 := by
    rw [hlen]
    unfold kidsN
    repeat' split
    all_goals omega
  have h1 : e.kind = 8 ∨ e.kind = 14 → 1 ≤ e.kids.length := fun h => by
    have : kidsN e.kind = 3 := by rcases h with h | h <;> rw [h] <;> rfl
    omega
  obtain ⟨b0, off0, cap, rfl, hS0, hcap⟩ := hv.slice
  have hPle := partsN_le e.kind e.kids.length h1
  have HW := fun w => impl_waitedFor e ⟨b0, off0, none⟩ cap hcap h1 w
  have HA : ∀ (k : Nat) (h : k < e.kids.length), k < partsN e.kind e.kids.length → atomK e.kids[k].kind = false → plainM e = false := fun k h a b => plain_no_atom h a b
  have HQ : ∀ (k : Nat) (h : k < e.kids.length), plainM e.kids[k] = false → plainM e = false := fun k h a => plain_no_part h a
  have HY : (∀ (k : Nat) (h : k < e.kids.length), k < partsN e.kind e.kids.length → atomK e.kids[k].kind = true) → (∀ (k : Nat) (h : k < e.kids.length), plainM e.kids[k] = true) → plainM e = true := fun a b => plain_yes a b
  have hAt := fun k w => impl_isAtOnce k w
  generalize hR : plainM e = R at *
  have HR : Hid (∀ (k : Nat) (h : k < e.kids.length), k < partsN e.kind e.kids.length → atomK e.kids[k].kind = false → R = false) := HA
  have HQ2 : Hid (∀ (k : Nat) (h : k < e.kids.length), plainM e.kids[k] = false → R = false) := HQ
  have HY2 : Hid ((∀ (k : Nat) (h : k < e.kids.length), k < partsN e.kind e.kids.length → atomK e.kids[k].kind = true) → (∀ (k : Nat) (h : k < e.kids.length), plainM e.kids[k] = true) → R = true) := HY
  clear HA HQ HY hR
  generalize hPN : partsN e.kind e.kids.length = P at *
  clear hPN
  go_enter Tryd.func14, Tryd.ntmps14
  go_upto_region 2 with (go_at_call 20; refine (HW _).mono ?_; rintro r w2 ⟨⟨a1, cap1, rfl, ha1⟩, hb2⟩)
  have hB2 := box_start hb2
  clear hb2 HW
  go_loopg [10] P (fun m i wr => ∃ k : Nat, k + m = P ∧ i = .int .i64 (k : Int) ∧ Hid (∀ (j : Nat) (h : j < e.kids.length), j < k → atomK e.kids[j].kind = true) ∧ Below (w.heap.size + 1) (w.alloc (.cells #[.int .i64 e.kind, .string e.name, .string e.tail, .int .i64 e.num, .slice (some ⟨b0, off0, none⟩) e.kids.length cap] 29)) wr)
  case atStart => exact ⟨0, by omega, rfl, (fun j h hj => absurd hj (Nat.not_lt_zero _)), hB2⟩
  case round =>
    clear hB2
    obtain ⟨k, hk, rfl, HE, hB⟩ := hrel
    have hbw := below_of_box hB
    obtain ⟨p0, p1, p2, p3, p4⟩ := box5 hB
    by_cases hlt : k < P
    · have hki : (k : Int) < (P : Int) := by omega
      have hlk : k < e.kids.length := by omega
      obtain ⟨b, off, cap2, sa, hS, hsl, hra, hla⟩ := hv.at (i := k) (e := e.kids[k]) (List.getElem?_eq_getElem hlk)
      obtain ⟨⟨rfl, rfl⟩, rfl⟩ : (b0 = b ∧ off0 = off) ∧ cap = cap2 := by simpa using hsl
      obtain rfl := ha1 (by omega)
      obtain ⟨c0, c1, c2, c3, c4⟩ := Ex.five (rangeAt_same (hbw.block b0 hS) hra)
      have hno : Hid (atomK e.kids[k].kind = false → R = false) := HR.out k hlk hlt
      have hne : Hid (atomK e.kids[k].kind = true → ∀ (j : Nat) (h : j < e.kids.length), j < k + 1 → atomK e.kids[j].kind = true) := fun ha j h hj => by
        by_cases e2 : j = k
        · subst e2; exact ha
        · exact HE.out j h (by omega)
      have hA := hAt e.kids[k].kind
      obtain ⟨sb, soff, scap, rfl, _, _⟩ := hla.slice
      clear hra hla hsl ih hparts HQ2 HY2 HR HE hv
      generalize e.kids[k] = x at *
      have hBx : ∀ o, Below (w.heap.size + 1) (w.alloc (.cells #[.int .i64 e.kind, .string e.name, .string e.tail, .int .i64 e.num, .slice (some ⟨b0, off0, none⟩) e.kids.length cap] 29)) (wr.alloc o) := fun o => box_alloc hB
      cases hat : atomK x.kind with
      | false =>
        rw [hat] at hA
        have hz : Hid (R = false) := hno.out hat
        clear hno hne hat
        go_wp2_with (go_at_call 21; refine (hA _).mono ?_; rintro r w3 ⟨rfl, rfl⟩)
        go_ret
        exact ⟨ret_bool hz.out.symm, below_of_box (hBx _)⟩
      | true =>
        rw [hat] at hA
        have hz : Hid _ := hne.out hat
        clear hno hne hat
        go_wp2_with (go_at_call 21; refine (hA _).mono ?_; rintro r w3 ⟨rfl, rfl⟩)
        go_roundg (P - (k + 1))
        case measure => omega
        case rel => exact ⟨k + 1, by omega, by go_num, hz, hBx _⟩
    · obtain rfl : k = P := by omega
      have hki : ¬ (k : Int) < (k : Int) := by omega
      have hB2 := hB
      clear hbw hB
      go_wp2_with fail
      go_loopg [22] e.kids.length (fun m i wr => ∃ j : Nat, j + m = e.kids.length ∧ i = .int .i64 (j : Int) ∧ Hid (∀ (t : Nat) (h : t < e.kids.length), t < j → plainM e.kids[t] = true) ∧ Below (w.heap.size + 1) (w.alloc (.cells #[.int .i64 e.kind, .string e.name, .string e.tail, .int .i64 e.num, .slice (some ⟨b0, off0, none⟩) e.kids.length cap] 29)) wr)
      case atStart => exact ⟨0, by omega, rfl, (fun j h hj => absurd hj (Nat.not_lt_zero _)), hB2⟩
      case round =>
        clear hB2 p0 p1 p2 p3 p4 hki hk
        obtain ⟨j, hj, rfl, HJ, hB⟩ := hrel
        have hbw := below_of_box hB
        by_cases hlt : j < e.kids.length
        · have hki : (j : Int) < (e.kids.length : Int) := by omega
          obtain ⟨b, off, cap2, sa, hS, hsl, hra, hla⟩ := hv.at (i := j) (e := e.kids[j]) (List.getElem?_eq_getElem hlt)
          obtain ⟨⟨rfl, rfl⟩, rfl⟩ : (b0 = b ∧ off0 = off) ∧ cap = cap2 := by simpa using hsl
          obtain ⟨c0, c1, c2, c3, c4⟩ := Ex.five (rangeAt_same (hbw.block b0 hS) hra)
          have hBx : ∀ o, Below (w.heap.size + 1) (w.alloc (.cells #[.int .i64 e.kind, .string e.name, .string e.tail, .int .i64 e.num, .slice (some ⟨b0, off0, none⟩) e.kids.length cap] 29)) (wr.alloc o) := fun o => box_alloc hB
          have hla0 := fun o => hla.keep (below_of_box (hBx o)) (below_of_box (hBx o)).size
          have hiha := ih e.kids[j] (List.getElem_mem hlt)
          have hpa := hparts e.kids[j] (List.getElem_mem hlt)
          have hno : Hid (plainM e.kids[j] = false → R = false) := HQ2.out j hlt
          have hne : Hid (plainM e.kids[j] = true → ∀ (t : Nat) (h : t < e.kids.length), t < j + 1 → plainM e.kids[t] = true) := fun ha t h ht => by
            by_cases e2 : t = j
            · subst e2; exact ha
            · exact HJ.out t h (by omega)
          obtain ⟨sb, soff, scap, rfl, _, _⟩ := hla.slice
          clear hra hla hsl ih hparts HQ2 HY2 HR HJ HE hv
          generalize e.kids[j] = x at *
          cases hat : plainM x with
          | false =>
            have hz : Hid (R = false) := hno.out hat
            clear hno hne
            go_wp2_with (go_at_call 14; refine (hiha _ _ _ (hla0 _) hpa).mono ?_; rintro r w3 ⟨rfl, hb3⟩; rw [hat]; have hB3 := box_trans (hBx _) hb3)
            go_ret
            exact ⟨ret_bool hz.out.symm, below_of_box hB3⟩
          | true =>
            have hz : Hid _ := hne.out hat
            clear hno hne
            go_wp2_with (go_at_call 14; refine (hiha _ _ _ (hla0 _) hpa).mono ?_; rintro r w3 ⟨rfl, hb3⟩; rw [hat]; have hB3 := box_trans (hBx _) hb3)
            go_roundg (e.kids.length - (j + 1))
            case measure => omega
            case rel => exact ⟨j + 1, by omega, by go_num, hz, hB3⟩
        · have hki : ¬ (j : Int) < (e.kids.length : Int) := by omega
          have hz : Hid (R = true) := HY2.out (fun t h ht => HE.out t h ht) (fun t h => HJ.out t h (by omega))
          clear HY2 HE HJ HQ2 HR
          go_wp2_with fail
          go_ret
          exact ⟨ret_bool hz.out.symm, hbw⟩
theorem impl_isPlain (e : Ex) : ImplPlain e := by
  induction e using Ex.ind with
  | h e ih => exact isPlain_walk e ih
end Go.Proofs.YtdghblpaccaaiaaDoor
