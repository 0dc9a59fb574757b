/-
  The law FnSameDeep.
-/
import Derived.Test.YthcifgpkiclkiaaDoorFdMath
import Derived.Test.YthcifgpkiclkiaaDoorSdImpl
import Derived.Test.YthcifgpkiclkiaaDoorRgImpl
import Derived.Test.YthcifgpkiclkiaaDoorRdDeep
import Derived.Deep.RegionHeld3
import Derived.Deep.Cut
import Derived.Deep.QuietTactic
import Derived.BigQuiet
namespace Go.Proofs.YthcifgpkiclkiaaDoor
open Go.RowKit

theorem rings_len20 {cs : List Ce} (h : cs.length ≤ 20) : (ringsM cs).length ≤ 1000 := by
  unfold ringsM
  split
  · have := takenTo_le (ringsB cs) (ringsB cs).length
    have e := ringsB_length cs
    rw [takenM]
    omega
  · simp
theorem fd_keepW {w w' : World} {b : Nat} {d : Wd} (h : w.heap[b]? = some (boxV d)) (hb : Below w.heap.size w w') : w'.heap[b]? = some (boxV d) := (hb.block b (Array.getElem?_eq_some_iff.1 h).1).trans h
set_option maxRecDepth 100000 in
set_option maxHeartbeats 2000000 in
theorem law_FnSameDeep (len : Nat) (w : World) (v : Value) (hv : Bytes w w.heap.size len v) (hT : BitTab w) :
    Calls Tryd.prog 3 #[v] w fun e w' => e = .returned (.bool true) ∧ Below w.heap.size w w' := by
  have hv0 := hv
  obtain ⟨a, cap, rfl, h1, h2, h3⟩ := hv
  clear h3
  unfold maxLen at h2
  by_cases hbig : 1048576 < len
  · have hi : (1048576 : Int) < (len : Int) := by omega
    go_enter Tryd.func3, Tryd.ntmps3
    go_wp2_with fail
    go_ret
    exact ⟨rfl, Below.refl _ _⟩
  have hi : ¬ (1048576 : Int) < (len : Int) := by omega
  go_enter Tryd.func3, Tryd.ntmps3
  go_upto_region 4 with (go_at_call 4; refine (spec_DrawSameDeep _ len _ hv0).mono ?_; rintro e w1 ⟨cs, d, vc, rfl, hcl, hCs, hB1⟩)
  clear hv0 hi h1 h2 hbig
  obtain ⟨ca, ccap, rfl⟩ := hCs.slice
  have hW1 : (w1.alloc (boxV d)).heap[w1.heap.size]? = some (boxV d) := heap_alloc_new w1 _
  have hB11 : Below w.heap.size w (w1.alloc (boxV d)) := hc_next hB1 (bt_new _ _)
  have hC11 : Cells (w1.alloc (boxV d)) (· < (w1.alloc (boxV d)).heap.size) cs (.slice ca cs.length ccap) := hCs.keep (bt_new _ _) (by simp)
  change Code.wp _ _ _ _ (w1.alloc (boxV d))
  generalize hWW : w1.alloc (boxV d) = W1 at *
  have KB : Hid (∀ w', Below W1.heap.size W1 w' → ((w'.cell? ⟨w1.heap.size, 0, none⟩ = some (.int .i64 d.tag) ∧ w'.cell? ⟨w1.heap.size, 1, none⟩ = some (.int .i64 d.num)) ∧ Cells w' (· < w'.heap.size) cs (.slice ca cs.length ccap) ∧ BitTab w' ∧ Below w.heap.size w w')) := fun w' h =>
    ⟨(boxV_two (fd_keepW hW1 h)).1, hC11.keep h h.size, hT.keep (hc_next hB11 h), hc_next hB11 h⟩
  have HI := fun (x : Wd) w' (h : Below W1.heap.size W1 w') => impl_SameDeep cs (by omega) x _ w' (KB.out w' h).2.1 (KB.out w' h).2.2.1
  have HS := fun w' (h : Below W1.heap.size W1 w') => spec_SameDeep cs (by omega) d _ w' (KB.out w' h).2.1
  have HR := fun w' (h : Below W1.heap.size W1 w') => impl_SameRings cs (by omega) _ w' (KB.out w' h).2.1
  have hr : Below W1.heap.size W1 W1 := Below.refl _ _
  obtain ⟨⟨c0, c1⟩, _⟩ := KB.out W1 hr
  have hCC := hC11
  clear hCs hB1 hW1 hB11 hWW hT
  by_cases hok : heapM cs = true ∧ wordP cs.length d.tag d.num
  case neg =>
    have he : deepOf cs d = -1 := if_neg hok
    have HId := HI d
    rw [he] at HId HS
    clear HI HR hok he hCC hC11
    go_wp2_with (first
      | (go_at_call 5; refine (HId _ hr).mono ?_; rintro e w2 ⟨rfl, hb2⟩; have hE2 := hc_next hr hb2; clear c0 c1; (obtain ⟨⟨c0, c1⟩, _⟩ := KB.out _ hE2))
      | (go_at_call 6; first
        | (refine (HS _ hE3).mono ?_; rintro e w4 ⟨rfl, hb4⟩; have hE4 := hc_next hE3 hb4)
        | (refine (HS _ hE2).mono ?_; rintro e w3 ⟨rfl, hb3⟩; have hE3 := hc_next hE2 hb3; clear c0 c1; (obtain ⟨⟨c0, c1⟩, _⟩ := KB.out _ hE3))))
    go_ret
    exact ⟨rfl, (KB.out _ hE4).2.2.2⟩
  obtain ⟨hh, hw⟩ := hok
  have HId := HI d
  rw [deepOf_yes hh hw] at HId HS
  by_cases ht : d.tag = 4
  case neg =>
    have hti : (d.tag != 4) = true := by simpa using ht
    have hn := Int.natCast_nonneg (deepM cs 14 d)
    generalize deepM cs 14 d = n at *
    have hn0 : ¬ (n : Int) < 0 := by omega
    clear HI HR hh hw ht hCC hC11 hn
    go_wp2_with (first
      | (go_at_call 5; refine (HId _ hr).mono ?_; rintro e w2 ⟨rfl, hb2⟩; have hE2 := hc_next hr hb2; clear c0 c1; (obtain ⟨⟨c0, c1⟩, _⟩ := KB.out _ hE2))
      | (go_at_call 6; first
        | (refine (HS _ hE3).mono ?_; rintro e w4 ⟨rfl, hb4⟩; have hE4 := hc_next hE3 hb4)
        | (refine (HS _ hE2).mono ?_; rintro e w3 ⟨rfl, hb3⟩; have hE3 := hc_next hE2 hb3; clear c0 c1; (obtain ⟨⟨c0, c1⟩, _⟩ := KB.out _ hE3))))
    go_ret
    exact ⟨rfl, (KB.out _ hE4).2.2.2⟩
  obtain ⟨t, u⟩ := d
  obtain rfl : t = 4 := ht
  have hrf := ref_of_word hw rfl
  obtain ⟨k, rfl⟩ : ∃ k : Nat, u = k := Int.eq_ofNat_of_zero_le hrf.1
  have hk : k < cs.length := by have := hrf.2; simpa using this
  obtain ⟨wa, wb⟩ := cell_words hh (List.getElem_mem hk)
  have hst := fd_step hk
  have hrg : Hid (k ∈ ringsM cs → deepM cs 14 ⟨4, (k : Int)⟩ = 14) := fun h => fd_ring hh h
  have HA := HI cs[k].a
  have HB := HI cs[k].b
  rw [deepOf_yes hh wa] at HA
  rw [deepOf_yes hh wb] at HB
  have la := deep_le cs 14 cs[k].a
  have lb := deep_le cs 14 cs[k].b
  generalize deepM cs 14 cs[k].a = x at *
  generalize deepM cs 14 cs[k].b = y at *
  generalize deepM cs 14 ⟨4, (k : Int)⟩ = n at *
  have HC : Hid (∀ w', Below W1.heap.size W1 w' → ∃ b off, ca = some ⟨b, off, none⟩ ∧ SdS w' b (off + k * 6) cs[k]) := fun w' h => by
    obtain ⟨b, off, hS, he, hrw⟩ := hCC.at k hk
    obtain ⟨_, _, q2, q3, q4, q5⟩ := Ce.six (rw_same (h.block b hS) hrw)
    exact ⟨b, off, by simpa using he, q2, q3, q4, q5⟩
  obtain ⟨b, off, rfl, _⟩ := HC.out W1 hr
  have HCx : Hid (∀ w', Below W1.heap.size W1 w' → SdS w' b (off + k * 6) cs[k]) := fun w' h => by
    obtain ⟨b', off', he, hq⟩ := HC.out w' h
    obtain ⟨rfl, rfl⟩ : b = b' ∧ off = off' := by simpa using he
    exact hq
  have hn0 : ¬ (n : Int) < 0 := by omega
  have hki : (k : Int) < (cs.length : Int) := by omega
  clear HI HC wa wb hw hrf hh hCC hC11
  generalize cs[k] = c at *
  go_upto_region 7 with (first
    | (go_at_call 5; refine (HId _ hr).mono ?_; rintro e w2 ⟨rfl, hb2⟩; have hE2 := hc_next hr hb2; clear c0 c1; (obtain ⟨⟨c0, c1⟩, _⟩ := KB.out _ hE2))
    | (go_at_call 6; refine (HS _ hE2).mono ?_; rintro e w3 ⟨rfl, hb3⟩; have hE3 := hc_next hE2 hb3; clear c0 c1; (obtain ⟨⟨c0, c1⟩, _⟩ := KB.out _ hE3)))
  clear HId HS hb2 hE2 hb3
  obtain ⟨q2, q3, q4, q5⟩ := HCx.out _ hE3
  go_upto_region 8 with (go_at_call 5; refine (HA _ hE3).mono ?_; rintro e w4 ⟨rfl, hb4⟩; have hE4 := hc_next hE3 hb4)
  clear c0 c1 q2 q3 q4 q5
  obtain ⟨⟨c0, c1⟩, _⟩ := KB.out _ hE4
  obtain ⟨q2, q3, q4, q5⟩ := HCx.out _ hE4
  clear HA
  go_upto_region 9 with (go_at_call 5; refine (HB _ hE4).mono ?_; rintro e w5 ⟨rfl, hb5⟩; have hE5 := hc_next hE4 hb5)
  clear c0 c1 q2 q3 q4 q5 HB hb4 hb5 hE3 hE4 HCx
  have hRm := HR _ hE5
  have hrl := rings_len20 hcl
  clear HR
  generalize ringsM cs = R at *
  by_cases hxy : x < y
  · have hxi : (x : Int) < (y : Int) := by omega
    have hz : Hid (n = y + 1 ∨ (n = 14 ∧ y = 14)) := by show _ ∨ _; omega
    have hzl : y ≤ 14 := lb
    clear hst hxy la lb
    go_upto_region 11 with fail
    clear hxi
    obtain ⟨z, rfl⟩ : ∃ z, z = y := ⟨_, rfl⟩
    go_wp2_with (go_at_call 7; refine hRm.mono ?_; rintro e w6 ⟨v6, rfl, hO6, hb6⟩; have hE6 := hc_next hE5 hb6)
    obtain ⟨ra, rcap, rfl, hrc⟩ := own_at hO6
    have hin : ∀ j (hj : j < R.length), ∃ g, ra = some ⟨g, 0, none⟩ ∧ w6.cell? ⟨g, j, none⟩ = some (.int .i64 ((R[j] : Nat) : Int)) := fun j hj => by
      obtain ⟨g, hg, h⟩ := hrc j (by rw [natsV_length]; exact hj)
      refine ⟨g, hg, ?_⟩
      rw [h]
      simp [natsV]
    clear hrc hRm hO6 hb6
    go_loopg [9] R.length (fun m i wr => ∃ j : Nat, j + m = R.length ∧ i = .int .i64 j ∧ Below w6.heap.size w6 wr)
    case atStart => exact ⟨0, by omega, rfl, Below.refl _ _⟩
    case round =>
      obtain ⟨j, hj, rfl, hB⟩ := hrel
      have hE := hc_next hE6 hB
      obtain ⟨⟨c0, c1⟩, _⟩ := KB.out _ hE
      by_cases hlt : j < R.length
      · have hji : (j : Int) < (R.length : Int) := by omega
        obtain ⟨g, rfl, hq⟩ := hin j hlt
        have hq' : wr.cell? ⟨g, j, none⟩ = some (.int .i64 ((R[j] : Nat) : Int)) := by rw [hB.cell (p := ⟨g, j, none⟩) (World.block_lt_of_cell? w6 _ hq)]; exact hq
        have hmem : Hid (R[j] = k → n = 14) := fun e => hrg.out (e ▸ List.getElem_mem hlt)
        generalize R[j] = q at *
        by_cases e : q = k
        · have h14 := hmem.out e
          have he1 : ((q : Int) == (k : Int)) = true := by rw [beq_iff_eq]; omega
          have he2 : ((n : Int) != 14) = false := by rw [h14]; rfl
          clear hin e h14 hq
          go_upto_region 15 with fail
          go_quiet (fail)
          go_wp2_with fail
          go_roundg (R.length - (j + 1))
          case measure => omega
          case rel => exact ⟨j + 1, by omega, by go_num, ho_drewN hB _⟩
        · have he1 : ((q : Int) == (k : Int)) = false := by rw [beq_eq_false_iff_ne]; omega
          clear hin e hq
          go_upto_region 15 with fail
          go_quiet (fail)
          go_wp2_with fail
          go_roundg (R.length - (j + 1))
          case measure => omega
          case rel => exact ⟨j + 1, by omega, by go_num, ho_drewN hB _⟩
      · obtain rfl : j = R.length := by omega
        have hji : ¬ (R.length : Int) < (R.length : Int) := by omega
        have wz : IntKind.i64.wrap ((z : Int) + 1) = (z : Int) + 1 := ck_wr _ (by omega) (by omega)
        clear hin
        rcases hz.out with e | ⟨e, e2⟩
        · have f1 : ((n : Int) == (z : Int) + 1) = true := by rw [beq_iff_eq]; omega
          clear e
          go_wp2_with fail
          go_ret
          exact ⟨rfl, (KB.out _ hE).2.2.2⟩
        · have f1 : ((n : Int) == (z : Int) + 1) = false := by rw [beq_eq_false_iff_ne]; omega
          have f2 : ((n : Int) == 14) = true := by rw [beq_iff_eq]; omega
          have f3 : ((z : Int) == (n : Int)) = true := by rw [beq_iff_eq]; omega
          clear e e2
          go_wp2_with fail
          go_ret
          exact ⟨rfl, (KB.out _ hE).2.2.2⟩
  · have hxi : ¬ (x : Int) < (y : Int) := by omega
    have hz : Hid (n = x + 1 ∨ (n = 14 ∧ x = 14)) := by show _ ∨ _; omega
    have hzl : x ≤ 14 := la
    clear hst hxy la lb
    go_upto_region 11 with fail
    clear hxi
    obtain ⟨z, rfl⟩ : ∃ z, z = x := ⟨_, rfl⟩
    go_wp2_with (go_at_call 7; refine hRm.mono ?_; rintro e w6 ⟨v6, rfl, hO6, hb6⟩; have hE6 := hc_next hE5 hb6)
    obtain ⟨ra, rcap, rfl, hrc⟩ := own_at hO6
    have hin : ∀ j (hj : j < R.length), ∃ g, ra = some ⟨g, 0, none⟩ ∧ w6.cell? ⟨g, j, none⟩ = some (.int .i64 ((R[j] : Nat) : Int)) := fun j hj => by
      obtain ⟨g, hg, h⟩ := hrc j (by rw [natsV_length]; exact hj)
      refine ⟨g, hg, ?_⟩
      rw [h]
      simp [natsV]
    clear hrc hRm hO6 hb6
    go_loopg [9] R.length (fun m i wr => ∃ j : Nat, j + m = R.length ∧ i = .int .i64 j ∧ Below w6.heap.size w6 wr)
    case atStart => exact ⟨0, by omega, rfl, Below.refl _ _⟩
    case round =>
      obtain ⟨j, hj, rfl, hB⟩ := hrel
      have hE := hc_next hE6 hB
      obtain ⟨⟨c0, c1⟩, _⟩ := KB.out _ hE
      by_cases hlt : j < R.length
      · have hji : (j : Int) < (R.length : Int) := by omega
        obtain ⟨g, rfl, hq⟩ := hin j hlt
        have hq' : wr.cell? ⟨g, j, none⟩ = some (.int .i64 ((R[j] : Nat) : Int)) := by rw [hB.cell (p := ⟨g, j, none⟩) (World.block_lt_of_cell? w6 _ hq)]; exact hq
        have hmem : Hid (R[j] = k → n = 14) := fun e => hrg.out (e ▸ List.getElem_mem hlt)
        generalize R[j] = q at *
        by_cases e : q = k
        · have h14 := hmem.out e
          have he1 : ((q : Int) == (k : Int)) = true := by rw [beq_iff_eq]; omega
          have he2 : ((n : Int) != 14) = false := by rw [h14]; rfl
          clear hin e h14 hq
          go_upto_region 15 with fail
          go_quiet (fail)
          go_wp2_with fail
          go_roundg (R.length - (j + 1))
          case measure => omega
          case rel => exact ⟨j + 1, by omega, by go_num, ho_drewN hB _⟩
        · have he1 : ((q : Int) == (k : Int)) = false := by rw [beq_eq_false_iff_ne]; omega
          clear hin e hq
          go_upto_region 15 with fail
          go_quiet (fail)
          go_wp2_with fail
          go_roundg (R.length - (j + 1))
          case measure => omega
          case rel => exact ⟨j + 1, by omega, by go_num, ho_drewN hB _⟩
      · obtain rfl : j = R.length := by omega
        have hji : ¬ (R.length : Int) < (R.length : Int) := by omega
        have wz : IntKind.i64.wrap ((z : Int) + 1) = (z : Int) + 1 := ck_wr _ (by omega) (by omega)
        clear hin
        rcases hz.out with e | ⟨e, e2⟩
        · have f1 : ((n : Int) == (z : Int) + 1) = true := by rw [beq_iff_eq]; omega
          clear e
          go_wp2_with fail
          go_ret
          exact ⟨rfl, (KB.out _ hE).2.2.2⟩
        · have f1 : ((n : Int) == (z : Int) + 1) = false := by rw [beq_eq_false_iff_ne]; omega
          have f2 : ((n : Int) == 14) = true := by rw [beq_iff_eq]; omega
          have f3 : ((z : Int) == (n : Int)) = true := by rw [beq_iff_eq]; omega
          clear e e2
          go_wp2_with fail
          go_ret
          exact ⟨rfl, (KB.out _ hE).2.2.2⟩
end Go.Proofs.YthcifgpkiclkiaaDoor
