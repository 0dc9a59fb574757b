/-
  The specification's l3Free.
-/
import Derived.Test.YtkkjpiikilhobaaGreatDoorNfMath
import Derived.Test.YtkkjpiikilhobaaGreatDoorExBox
namespace Go.Proofs.YtkkjpiikilhobaaGreatDoor
open Go.RowKit

/-- What l3Free does with an expression. -/
def SpecFree (e : Ex) : Prop := ∀ (w : World) (s : Value) (d : Int), e.Wee → Lies w (· < w.heap.size) e.kids s → sizeM e d ≤ 60 →
  Calls Tryz.prog 15 #[e.val s] w fun r w' => Bound w w' (freeM e) r

theorem one_env (w : World) (s : ByteArray) (n : Nat) (hn : n = w.heap.size) : Env (w.alloc (.cells #[.string s] 9)) [s] (.slice (some ⟨n, 0, none⟩) 1 1) := by
  subst hn
  refine Or.inl ⟨by simp, Or.inr ⟨w.heap.size, 1, #[.string s], rfl, by omega, ?_, by simp, by unfold maxLen; omega, by simp, by simp⟩⟩
  exact heap_alloc_new w _

set_option maxHeartbeats 2000000 in
theorem free_walk (e : Ex) (ih : ∀ x ∈ e.kids, SpecFree x) : SpecFree e := by
  intro w s d hw hv hsz
  have hM := freeM_eq e
  obtain ⟨_, hk, hw'⟩ := hw
  obtain ⟨a, cap, rfl⟩ := hv.slice
  by_cases h3 : e.kind = 3
  · rw [if_pos h3] at hM
    have HM : Hid (freeM e = [e.name]) := hM
    have h3' : (e.kind == 3) = true := by simpa using h3
    clear hM h3
    go_enter Tryz.func15, Tryz.ntmps15
    go_wp2_with fail
    go_ret
    exact ⟨_, rfl, by rw [HM.out]; exact one_env _ _ _ (by simp), below_al (below_al0 _ _)⟩
  · rw [if_neg h3] at hM
    have HM : Hid (freeM e = freeAll (e.kids.drop 0) 0 e.bindsAt []) := hM
    have h3' : (e.kind == 3) = false := by simpa using h3
    have HZ : Hid (sizeM e d = sizeAll (e.kids.drop 0) (d + 1) 1) := by
      show _ = _
      rw [sizeM_eq] at hsz ⊢
      split at hsz
      · omega
      · rename_i hs; rw [if_neg hs]; rfl
    clear hM h3
    go_enter Tryz.func15, Tryz.ntmps15
    go_wp2_with fail
    go_loopw [3, 4] (fun u i wr => ∃ (k : Nat) (m : Int) (out : List ByteArray), k ≤ e.kids.length ∧ i = .int .i64 k ∧ Env wr out u ∧ Hid (freeM e = freeAll (e.kids.drop k) k e.bindsAt out) ∧ Hid (sizeM e d = sizeAll (e.kids.drop k) (d + 1) m) ∧ (out.length : Int) ≤ m ∧ m ≤ 60 ∧ Below (w.heap.size + 1) (w.alloc (.cells #[.int .i64 e.kind, .string e.name, .string e.tail, .int .i64 e.num, .slice a e.kids.length cap] 30)) wr) (fun _ i _ => e.kids.length - (intOf i).toNat)
    case atStart => exact ⟨0, 1, [], by omega, rfl, Or.inr ⟨_, rfl, rfl⟩, HM, HZ, by simp, by omega, (Below.refl _ _).alloc (by simp) _⟩
    case round =>
      obtain ⟨k, m, out, hkl, rfl, hE, HF, HS, hom, hm60, hB⟩ := hrel
      have hbw := below_of_box hB
      obtain ⟨p0, p1, p2, p3, p4⟩ := box5 hB
      by_cases hlt : k < e.kids.length
      · obtain ⟨b, off, cap', s1, hSb, hsl, hr, hl⟩ := hv.at (List.getElem?_eq_getElem hlt)
        obtain ⟨rfl, rfl⟩ : a = some ⟨b, off, none⟩ ∧ cap = cap' := by simpa using hsl
        obtain ⟨c0, c1, c2, c3, c4⟩ := Ex.five (rangeAt_same (hbw.block b hSb) hr)
        have hl' := hl.keep hbw hbw.size
        have HX : Hid (freeAll (e.kids.drop k) k e.bindsAt out = freeAll (e.kids.drop (k + 1)) ((k : Int) + 1) e.bindsAt (allM out (lessAll (freeM e.kids[k]) (e.bindsAt k)))) := freeAll_drop _ _ _ _ k hlt
        have hsd := sizeAll_drop e.kids (d + 1) m k hlt
        have hsb := (sizeM_bd e.kids[k] (d + 1)).1
        have hle : m + sizeM e.kids[k] (d + 1) ≤ 60 := by
          apply Decidable.byContradiction; intro hc
          rw [if_pos (by omega), ← HS.out] at hsd; omega
        have HS2 : Hid (sizeM e d = sizeAll (e.kids.drop (k + 1)) (d + 1) (m + sizeM e.kids[k] (d + 1))) := by
          show _ = _
          rw [HS.out, hsd, if_neg (by omega)]
        have hsk : sizeM e.kids[k] (d + 1) ≤ 60 := by omega
        have hfl := freeM_length e.kids[k] (d + 1) hsk
        have hih := ih e.kids[k] (List.getElem_mem hlt)
        have hwk := hw' e.kids[k] (List.getElem_mem hlt)
        have hbt := bindsL_two e.kind e.name e.tail k
        clear hr hl hsl hsd ih
        go_wp2_with (first
          | (go_at_call 15; refine (hih _ _ (d + 1) hwk hl' hsk).mono ?_; rintro r w1 ⟨v1, rfl, he1, hb1⟩; have hB1 := below_box_trans hB hb1; clear p0 p1 p2 p3 p4; obtain ⟨p0, p1, p2, p3, p4⟩ := box5 hB1)
          | (go_at_call 25; refine (spec_l3Binds _ _ _ _ _ _ _).mono ?_; rintro r w2 ⟨v2, rfl, he2, hb2⟩; have he12 := Env.keep he1 hb2; have hb12 := below_next hb1 hb2; obtain ⟨ad2, cap2, rfl, hcell2⟩ := he2.open))
        go_loopw [5, 7] (fun u i wi => ∃ j : Nat, j ≤ (bindsL e.kind e.name e.tail k).length ∧ i = .int .i64 j ∧ Env wi (lessAll (freeM e.kids[k]) ((bindsL e.kind e.name e.tail k).take j)) u ∧ Below w2.heap.size w2 wi) (fun _ i _ => (bindsL e.kind e.name e.tail k).length - (intOf i).toNat)
        case atStart => exact ⟨0, by omega, rfl, he12, Below.refl _ _⟩
        case round =>
          obtain ⟨j, hj, rfl, hE2, hB2⟩ := hrel
          have hll := lessAll_length (freeM e.kids[k]) ((bindsL e.kind e.name e.tail k).take j)
          have hll2 : (lessAll (freeM e.kids[k]) ((bindsL e.kind e.name e.tail k).take j)).length ≤ 1000000 := by omega
          by_cases hjt : j < (bindsL e.kind e.name e.tail k).length
          · obtain ⟨g, rfl, hck⟩ := hcell2 j hjt
            have hck' : wr.cell? ⟨g, j, none⟩ = some (.string (bindsL e.kind e.name e.tail k)[j]) := by rw [← hck]; exact hB2.cell (World.block_lt_of_cell? w2 _ hck)
            have HL : Hid (lessAll (freeM e.kids[k]) ((bindsL e.kind e.name e.tail k).take (j + 1)) = _) := lessAll_take (freeM e.kids[k]) (bindsL e.kind e.name e.tail k) j hjt
            clear hck hcell2 c0 c1 c2 c3 c4 p0 p1 p2 p3 p4
            go_wp2_with (go_at_call 26; refine (spec_l3Less _ _ _ _ hll2 hE2).mono ?_; rintro r w3 ⟨v3, rfl, he3, hb3⟩)
            go_roundw
            case rel => exact ⟨j + 1, by omega, by go_num, by rw [HL.out]; exact he3, below_next hB2 hb3⟩
            case measure => simp [intOf]; omega
          · have HL : Hid ((bindsL e.kind e.name e.tail k).take j = bindsL e.kind e.name e.tail k) := List.take_of_length_le (by omega)
            have hE3 := hE2
            rw [HL.out] at hE3
            have hb4 := below_next hb12 hB2
            have hE4 := Env.keep hE hb4
            have hll3 := lessAll_length (freeM e.kids[k]) (bindsL e.kind e.name e.tail k)
            have hB4 := below_box_trans hB hb4
            clear hll hll2 hcell2 c0 c1 c2 c3 c4 p0 p1 p2 p3 p4
            go_wp2_with (go_at_call 27; refine (spec_l3All _ _ _ _ _ (by omega) hE4 hE3).mono ?_; rintro r w5 ⟨v5, rfl, he5, hb5⟩)
            go_roundw
            case rel =>
              have h5 := allM_length out (lessAll (freeM e.kids[k]) (bindsL e.kind e.name e.tail k))
              exact ⟨k + 1, m + sizeM e.kids[k] (d + 1), _, by omega, by go_num, he5, by show _ = _; rw [HF.out, HX.out]; rfl, HS2, by omega, hle, below_box_trans hB4 hb5⟩
            case measure => simp [intOf]; omega
      · have HE : Hid (freeM e = out) := by show _ = _; rw [HF.out, List.drop_eq_nil_of_le (by omega), freeAll]
        go_wp2_with fail
        go_ret
        exact ⟨_, rfl, by rw [HE.out]; exact hE, hbw⟩

theorem spec_l3Free (e : Ex) : SpecFree e := by
  induction e using Ex.ind with
  | h e ih => exact free_walk e ih
end Go.Proofs.YtkkjpiikilhobaaGreatDoor
