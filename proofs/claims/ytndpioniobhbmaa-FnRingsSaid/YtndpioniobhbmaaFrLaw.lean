/-
  The law FnRings.
-/
import Derived.Test.YtndpioniobhbmaaFdMath
import Derived.Test.YtndpioniobhbmaaRgImpl
import Derived.Test.YtndpioniobhbmaaRgSpec
import Derived.Test.YtndpioniobhbmaaRdRings
import Derived.Test.YtndpioniobhbmaaMeInt
import Derived.Deep.RegionHeld3
import Derived.Deep.Cut
import Derived.Deep.QuietTactic
import Derived.BigQuiet
namespace Go.Proofs.Ytndpioniobhbmaa
open Go.RowKit

/-- Does a cell lead to earlier ones alone? -/
def downQ (cs : List Ce) (p : Nat) : Bool := match cs[p]? with | some c => (c.a.tag != 4 || decide (c.a.num < (p : Int))) && (c.b.tag != 4 || decide (c.b.num < (p : Int))) | none => true
def downTo (cs : List Ce) (j : Nat) : Bool := (List.range j).all (downQ cs)
theorem downTo_succ (cs : List Ce) (j : Nat) : downTo cs (j + 1) = (downTo cs j && downQ cs j) := by
  simp [downTo, List.range_succ]
theorem down_at {cs : List Ce} {p : Nat} (h : p < cs.length) : downQ cs p = ((cs[p].a.tag != 4 || decide (cs[p].a.num < (p : Int))) && (cs[p].b.tag != 4 || decide (cs[p].b.num < (p : Int)))) := by
  rw [downQ]; simp [h]
theorem down_none {cs : List Ce} (h : heapM cs = true) (hd : downTo cs cs.length = true) : ringsM cs = [] := by
  apply List.eq_nil_iff_forall_not_mem.2
  intro k hk
  obtain ⟨hlt, hl⟩ := rings_mem h hk
  have hall : ∀ (p : Nat) (c : Ce), cs[p]? = some c → ∀ x, (x = c.a ∨ x = c.b) → x.tag = 4 → x.num.toNat < p := by
    intro p c hc x hx ht
    obtain ⟨hp, rfl⟩ := List.getElem?_eq_some_iff.1 hc
    have hq := List.all_eq_true.1 hd p (List.mem_range.2 hp)
    rw [down_at hp] at hq
    obtain ⟨_, hrefs⟩ := heap_refs h
    obtain ⟨ra, rb⟩ := hrefs _ (List.getElem_mem hp)
    simp only [Bool.and_eq_true, Bool.or_eq_true, bne_iff_ne, decide_eq_true_eq] at hq
    rcases hx with rfl | rfl
    · have := ra ht
      rcases hq.1 with e | e
      · exact absurd ht e
      · omega
    · have := rb ht
      rcases hq.2 with e | e
      · exact absurd ht e
      · omega
  have := leads_down hall (i := k) (fun x hx ht => by
    simp only [List.mem_cons, List.not_mem_nil, or_false] at hx
    exact hall k cs[k] (List.getElem?_eq_getElem hlt) x hx ht) hl
  omega
theorem rings_back (cs : List Ce) (j : Nat) (hj : j < cs.length) : (ringsM cs).contains j = (reachM cs [cs[j].a, cs[j].b]).contains j := by
  rw [Bool.eq_iff_iff, List.contains_iff_mem, ← back_rings, taken_mem, List.getD_eq_getElem?_getD, List.getElem?_eq_getElem (by rw [backB_length]; exact hj), Option.getD_some, backB_get, back_at hj]
theorem take_contains {l : List Nat} {t j : Nat} (h : t < l.length) : (l.take (t + 1)).contains j = ((l.take t).contains j || decide (l[t] = j)) := by
  rw [List.take_succ_eq_append_getElem h, Bool.eq_iff_iff]
  simp only [List.contains_iff_mem, List.mem_append, List.mem_singleton, Bool.or_eq_true, decide_eq_true_eq]
  constructor
  · rintro (e | e)
    · exact Or.inl e
    · exact Or.inr e.symm
  · rintro (e | e)
    · exact Or.inl e
    · exact Or.inr e.symm
theorem rings_lenF {cs : List Ce} (h : cs.length ≤ 20) : (ringsM cs).length ≤ 1000 := by
  unfold ringsM
  split
  · have := takenTo_le (ringsB cs) (ringsB cs).length
    have e := ringsB_length cs
    rw [takenM]
    omega
  · simp
/-- A cell's two words. -/
def SrS (w : World) (b o : Nat) (c : Ce) : Prop := w.cell? ⟨b, o + 2, none⟩ = some (.int .i64 c.a.tag) ∧ w.cell? ⟨b, o + 3, none⟩ = some (.int .i64 c.a.num) ∧ w.cell? ⟨b, o + 4, none⟩ = some (.int .i64 c.b.tag) ∧ w.cell? ⟨b, o + 5, none⟩ = some (.int .i64 c.b.num)
theorem owni {w : World} {B : Nat} {l : List Nat} {v : Value} (h : w.ownsRow B 3 1 v l.length (natsV l)) : OwnI w B w.heap.size l v := ⟨h, fun k hk => (h.lt k hk).2⟩

set_option maxRecDepth 100000 in
set_option maxHeartbeats 4000000 in
theorem law_FnRings (len : Nat) (w : World) (v : Value) (hv : Bytes w w.heap.size len v) :
    Calls Try.prog 3 #[v] w fun e w' => e = .returned (.bool true) ∧ Below w.heap.size w w' := by
  have hv0 := hv
  obtain ⟨a, cap, rfl, h1, h2, h3⟩ := hv
  clear h3
  unfold maxLen at h2
  by_cases hbig : 1048576 < len
  · have hi : (1048576 : Int) < (len : Int) := by omega
    go_enter Try.func3, Try.ntmps3
    go_wp2_with fail
    go_ret
    exact ⟨rfl, Below.refl _ _⟩
  have hi : ¬ (1048576 : Int) < (len : Int) := by omega
  go_enter Try.func3, Try.ntmps3
  go_upto_region 4 with (go_at_call 4; refine (spec_DrawSameRings _ len _ hv0).mono ?_; rintro e w1 ⟨cs, vc, rfl, hcl, hCs, hB1⟩)
  clear hv0 hi h1 h2 hbig
  obtain ⟨ca, ccap, rfl⟩ := hCs.slice
  have KB : Hid (∀ w', Below w1.heap.size w1 w' → (Cells w' (· < w'.heap.size) cs (.slice ca cs.length ccap) ∧ Below w.heap.size w w')) := fun w' h => ⟨hCs.keep h h.size, hc_next hB1 h⟩
  have HI := fun w' (h : Below w1.heap.size w1 w') => impl_SameRings cs (by omega) _ w' (KB.out w' h).1
  have HS := fun w' (h : Below w1.heap.size w1 w') => spec_SameRings cs (by omega) _ w' (KB.out w' h).1
  have HO := fun w' (h : Below w1.heap.size w1 w') => impl_HeapOk cs (by omega) _ w' (KB.out w' h).1
  have hRl := rings_lenF hcl
  have HC : Hid (∀ (k : Nat) (hk : k < cs.length), ∃ b off, ca = some ⟨b, off, none⟩ ∧ ∀ w', Below w1.heap.size w1 w' → SrS w' b (off + k * 6) cs[k]) := fun k hk => by
    obtain ⟨b, off, hS, he, hr⟩ := hCs.at k hk
    refine ⟨b, off, by simpa using he, fun w' h => ?_⟩
    obtain ⟨_, _, q2, q3, q4, q5⟩ := Ce.six (rw_same (h.block b hS) hr)
    exact ⟨q2, q3, q4, q5⟩
  have hr1 : Below w1.heap.size w1 w1 := Below.refl _ _
  clear hCs hB1
  cases hh : heapM cs
  · rw [hh] at HO
    clear hh HC
    generalize ringsM cs = R at *
    go_upto_region 6 with (first
      | (go_at_call 5; refine (HI _ hr1).mono ?_; rintro e w2 ⟨v2, rfl, hO2, hb2⟩; have hE2 := hb2)
      | (go_at_call 7; refine (HS _ hE2).mono ?_; rintro e w3 ⟨v3, rfl, hO3, hb3⟩; have hE3 := hc_next hE2 hb3; have hO23 := ow_keep hO2 hb3)
      | (go_at_call 6; refine (law_enInts R (by omega) _ _ _ _ _ _ _ (owni hO23) (owni hO3)).mono ?_; rintro e w4 ⟨rfl, hb4⟩; have hE4 := hc_next hE3 hb4; have hO24 := ow_keep hO23 hb4)
      | (go_at_call 8; refine (HO _ hE4).mono ?_; rintro e w5 ⟨rfl, hb5⟩; have hE5 := hc_next hE4 hb5; have hO25 := ow_keep hO24 hb5))
    clear hb2 hb3 hb4 hb5 hO2 hO3 hO23 hO24 hE2 hE3 hE4 HI HO
    go_wp2_with (first
      | (go_at_call 7; refine (HS _ hE5).mono ?_; rintro e w6 ⟨v6, rfl, hO6, hb6⟩; have hE6 := hc_next hE5 hb6; have hO26 := ow_keep hO25 hb6)
      | (go_at_call 6; refine (law_enInts R (by omega) _ _ _ _ _ _ _ (owni hO26) (owni hO6)).mono ?_; rintro e w7 ⟨rfl, hb7⟩; have hE7 := hc_next hE6 hb7))
    go_ret
    exact ⟨rfl, (KB.out _ hE7).2⟩
  rw [hh] at HO
  have HN : Hid (downTo cs cs.length = true → ringsM cs = []) := fun h => down_none hh h
  have HB : Hid (∀ j (hj : j < cs.length), (ringsM cs).contains j = (reachM cs [cs[j].a, cs[j].b]).contains j) := fun j hj => rings_back cs j hj
  have HL : Hid (∀ c ∈ cs, (reachM cs [c.a, c.b]).length ≤ 1000000) := fun c hc => reach_len cs c hc
  have HR := fun (k : Nat) (hk : k < cs.length) w' (h : Below w1.heap.size w1 w') => impl_HeapReach cs (by omega) [cs[k].a, cs[k].b] (by simp) (.slice ca cs.length ccap) (.slice (some ⟨w'.heap.size, 0, none⟩) 2 2) (w'.alloc (.cells #[.int .i64 cs[k].a.tag, .int .i64 cs[k].a.num, .int .i64 cs[k].b.tag, .int .i64 cs[k].b.num] 31)).drew (KB.out _ ((h.alloc h.size _).drew)).1 (rg_two w' cs[k].a cs[k].b 31).drew
  clear hh
  generalize ringsM cs = R at *
  go_upto_region 7 with (first
    | (go_at_call 5; refine (HI _ hr1).mono ?_; rintro e w2 ⟨v2, rfl, hO2, hb2⟩; have hE2 := hb2)
    | (go_at_call 7; refine (HS _ hE2).mono ?_; rintro e w3 ⟨v3, rfl, hO3, hb3⟩; have hE3 := hc_next hE2 hb3; have hO23 := ow_keep hO2 hb3)
    | (go_at_call 6; refine (law_enInts R (by omega) _ _ _ _ _ _ _ (owni hO23) (owni hO3)).mono ?_; rintro e w4 ⟨rfl, hb4⟩; have hE4 := hc_next hE3 hb4; have hO24 := ow_keep hO23 hb4)
    | (go_at_call 8; refine (HO _ hE4).mono ?_; rintro e w5 ⟨rfl, hb5⟩; have hE5 := hc_next hE4 hb5; have hO25 := ow_keep hO24 hb5))
  clear hb2 hb3 hb4 hb5 hO2 hO3 hO23 hO24 hE2 hE3 hE4 HI HO HS hr1
  obtain ⟨ra, rcap, rfl, hrc⟩ := own_at hO25
  have hinR : Hid (∀ j (hj : j < R.length), ∃ g, ra = some ⟨g, 0, none⟩ ∧ w5.cell? ⟨g, j, none⟩ = some (.int .i64 ((R[j] : Nat) : Int))) := fun j hj => by
    obtain ⟨g, hg, h⟩ := hrc j (by rw [natsV_length]; exact hj)
    refine ⟨g, hg, ?_⟩
    rw [h]
    simp [natsV]
  clear hrc hO25
  go_wp2_with fail
  go_loopg [5, 6] cs.length (fun m dn i wr => ∃ j : Nat, j + m = cs.length ∧ dn = .bool (downTo cs j) ∧ i = .int .i64 j ∧ Below w5.heap.size w5 wr)
  case atStart => exact ⟨0, by omega, rfl, rfl, Below.refl _ _⟩
  case round =>
    obtain ⟨j, hj, rfl, rfl, hB⟩ := hrel
    have hE := hc_next hE5 hB
    by_cases hlt : j < cs.length
    · have hji : (j : Int) < (cs.length : Int) := by omega
      have hnx := downTo_succ cs j
      rw [down_at hlt] at hnx
      have hRj := HR j hlt wr hE
      have hbk := HB.out j hlt
      have hll := HL.out cs[j] (List.getElem_mem hlt)
      obtain ⟨b, off, rfl, hq⟩ := HC.out j hlt
      have HQ : Hid (∀ w', Below w1.heap.size w1 w' → SrS w' b (off + j * 6) cs[j]) := hq
      obtain ⟨q2, q3, q4, q5⟩ := hq wr hE
      generalize reachM cs [cs[j].a, cs[j].b] = l at *
      have HX : Hid (downTo cs (j + 1) = _) := hnx
      generalize cs[j] = c at *
      clear hq hnx
      generalize downTo cs j = dn at *
      go_upto_region 11 with fail
      go_region_held3 (fun w' => w'.cell? ⟨b, off + j * 6 + 2, none⟩ = some (.int .i64 c.a.tag) ∧ w'.cell? ⟨b, off + j * 6 + 3, none⟩ = some (.int .i64 c.a.num) ∧ w'.cell? ⟨b, off + j * 6 + 4, none⟩ = some (.int .i64 c.b.tag) ∧ w'.cell? ⟨b, off + j * 6 + 5, none⟩ = some (.int .i64 c.b.num)) (first | go_keep | exact ⟨q2, q3, q4, q5⟩ | exact HQ.out _ (by assumption)) (first
        | (go_at_call 9; refine hRj.mono ?_; rintro e w7 ⟨v7, rfl, hO7, hb7⟩; have hE7 : Below w1.heap.size w1 w7 := hc_next hE (hc_next (rg_new _ _).drew hb7)))
      obtain ⟨la, lcap, rfl, hlc⟩ := own_at hO7
      have hinL : ∀ t (ht : t < l.length), ∃ g, la = some ⟨g, 0, none⟩ ∧ w7.cell? ⟨g, t, none⟩ = some (.int .i64 ((l[t] : Nat) : Int)) := fun t ht => by
        obtain ⟨g, hg, h⟩ := hlc t (by rw [natsV_length]; exact ht)
        refine ⟨g, hg, ?_⟩
        rw [h]
        simp [natsV]
      have hB7 : Below w5.heap.size w5 w7 := hB.trans ((hc_next (rg_new _ _).drew hb7).mono hB.size)
      have hinR7 : ∀ t (ht : t < R.length), ∃ g, ra = some ⟨g, 0, none⟩ ∧ w7.cell? ⟨g, t, none⟩ = some (.int .i64 ((R[t] : Nat) : Int)) := fun t ht => by
        obtain ⟨g, hg, h⟩ := hinR.out t ht
        refine ⟨g, hg, ?_⟩
        rw [hB7.cell (p := ⟨g, t, none⟩) (World.block_lt_of_cell? w5 _ h)]
        exact h
      obtain ⟨q2, q3, q4, q5⟩ := HQ.out _ hE7
      clear hlc hO7 hRj
      go_wp2_with fail
      go_loopg [8, 9] l.length (fun m bk i wr => ∃ t : Nat, t + m = l.length ∧ bk = .bool ((l.take t).contains j) ∧ i = .int .i64 t ∧ wr = w7)
      case atStart => exact ⟨0, by omega, rfl, rfl, rfl⟩
      case round =>
        obtain ⟨t, ht, rfl, rfl, hw7⟩ := hrel
        have hw8 := hw7.symm
        clear hw7
        subst hw8
        by_cases hlt2 : t < l.length
        · have hti : (t : Int) < (l.length : Int) := by omega
          have HT : Hid ((l.take (t + 1)).contains j = ((l.take t).contains j || decide (l[t] = j))) := take_contains hlt2
          obtain ⟨g, rfl, hc⟩ := hinL t hlt2
          cases hb : (l.take t).contains j
          · rw [hb] at HT
            generalize l[t] = q at *
            by_cases e : q = j
            · have he : ((q : Int) == (j : Int)) = true := by rw [beq_iff_eq]; omega
              have HV : Hid ((l.take (t + 1)).contains j = true) := by show _ = _; rw [HT.out]; simp [e]
              clear HT e hb
              go_wp2_with fail
              go_roundg (l.length - (t + 1))
              case measure => omega
              case rel => exact ⟨t + 1, by omega, by rw [HV.out], by go_num, rfl⟩
            · have he : ((q : Int) == (j : Int)) = false := by rw [beq_eq_false_iff_ne]; omega
              have HV : Hid ((l.take (t + 1)).contains j = false) := by show _ = _; rw [HT.out]; simp [e]
              clear HT e hb
              go_wp2_with fail
              go_roundg (l.length - (t + 1))
              case measure => omega
              case rel => exact ⟨t + 1, by omega, by rw [HV.out], by go_num, rfl⟩
          · have HV : Hid ((l.take (t + 1)).contains j = true) := by show _ = _; rw [HT.out, hb]; rfl
            clear HT hb
            go_wp2_with fail
            go_roundg (l.length - (t + 1))
            case measure => omega
            case rel => exact ⟨t + 1, by omega, by rw [HV.out], by go_num, rfl⟩
        · obtain rfl : t = l.length := by omega
          have hti : ¬ (l.length : Int) < (l.length : Int) := by omega
          rw [List.take_length]
          clear hinL
          generalize hx : l.contains j = x at *
          clear hx
          go_wp2_with fail
          go_loopg [10, 11] R.length (fun m bk i wr => ∃ t : Nat, t + m = R.length ∧ bk = .bool ((R.take t).contains j) ∧ i = .int .i64 t ∧ wr = w7)
          case atStart => exact ⟨0, by omega, rfl, rfl, rfl⟩
          case round =>
            obtain ⟨t, ht, rfl, rfl, hw7⟩ := hrel
            have hw8 := hw7.symm
            clear hw7
            subst hw8
            by_cases hlt2 : t < R.length
            · have hti : (t : Int) < (R.length : Int) := by omega
              have HT : Hid ((R.take (t + 1)).contains j = ((R.take t).contains j || decide (R[t] = j))) := take_contains hlt2
              obtain ⟨g, rfl, hc⟩ := hinR7 t hlt2
              cases hb : (R.take t).contains j
              · rw [hb] at HT
                generalize R[t] = q at *
                by_cases e : q = j
                · have he : ((q : Int) == (j : Int)) = true := by rw [beq_iff_eq]; omega
                  have HV : Hid ((R.take (t + 1)).contains j = true) := by show _ = _; rw [HT.out]; simp [e]
                  clear HT e hb
                  go_wp2_with fail
                  go_roundg (R.length - (t + 1))
                  case measure => omega
                  case rel => exact ⟨t + 1, by omega, by rw [HV.out], by go_num, rfl⟩
                · have he : ((q : Int) == (j : Int)) = false := by rw [beq_eq_false_iff_ne]; omega
                  have HV : Hid ((R.take (t + 1)).contains j = false) := by show _ = _; rw [HT.out]; simp [e]
                  clear HT e hb
                  go_wp2_with fail
                  go_roundg (R.length - (t + 1))
                  case measure => omega
                  case rel => exact ⟨t + 1, by omega, by rw [HV.out], by go_num, rfl⟩
              · have HV : Hid ((R.take (t + 1)).contains j = true) := by show _ = _; rw [HT.out, hb]; rfl
                clear HT hb
                go_wp2_with fail
                go_roundg (R.length - (t + 1))
                case measure => omega
                case rel => exact ⟨t + 1, by omega, by rw [HV.out], by go_num, rfl⟩
            · obtain rfl : t = R.length := by omega
              have hti : ¬ (R.length : Int) < (R.length : Int) := by omega
              rw [List.take_length]
              rw [hbk]
              clear hinR7 hbk
              have hxx : (x != x) = false := by cases x <;> rfl
              cases dn
              · have HV : Hid (downTo cs (j + 1) = false) := by show _ = _; rw [HX.out]; simp
                clear HX
                go_wp2_with fail
                go_roundg (cs.length - (j + 1))
                case measure => omega
                case rel => exact ⟨j + 1, by omega, by rw [HV.out], by go_num, hB7⟩
              · by_cases ha : c.a.tag = 4 ∧ ¬ c.a.num < (j : Int)
                · have HV : Hid (downTo cs (j + 1) = false) := by show _ = _; rw [HX.out]; simp [ha.1, ha.2]
                  have t1 : (c.a.tag != 4) = false := by rw [ha.1]; rfl
                  have t2 := ha.2
                  clear HX ha
                  go_wp2_with fail
                  go_roundg (cs.length - (j + 1))
                  case measure => omega
                  case rel => exact ⟨j + 1, by omega, by rw [HV.out], by go_num, hB7⟩
                · have hA : Hid ((c.a.tag != 4 || decide (c.a.num < (j : Int))) = true) := by
                    show _ = _
                    by_cases e : c.a.tag = 4
                    · have : c.a.num < (j : Int) := by
                        by_cases e2 : c.a.num < (j : Int)
                        · exact e2
                        · exact absurd ⟨e, e2⟩ ha
                      simp [this]
                    · simp [e]
                  have HY : Hid (downTo cs (j + 1) = (c.b.tag != 4 || decide (c.b.num < (j : Int)))) := by show _ = _; rw [HX.out, hA.out]; simp
                  clear HX
                  by_cases ta : c.a.tag = 4
                  · have t1 : (c.a.tag != 4) = false := by rw [ta]; rfl
                    have t2 : c.a.num < (j : Int) := by
                      by_cases e2 : c.a.num < (j : Int)
                      · exact e2
                      · exact absurd ⟨ta, e2⟩ ha
                    clear ha hA ta
                    by_cases tb : c.b.tag = 4
                    · have t3 : (c.b.tag != 4) = false := by rw [tb]; rfl
                      by_cases t4 : c.b.num < (j : Int)
                      · have HV : Hid (downTo cs (j + 1) = true) := by show _ = _; rw [HY.out]; simp [t4]
                        clear HY tb
                        go_wp2_with fail
                        go_roundg (cs.length - (j + 1))
                        case measure => omega
                        case rel => exact ⟨j + 1, by omega, by rw [HV.out], by go_num, hB7⟩
                      · have HV : Hid (downTo cs (j + 1) = false) := by show _ = _; rw [HY.out, t3]; simp [t4]
                        clear HY tb
                        go_wp2_with fail
                        go_roundg (cs.length - (j + 1))
                        case measure => omega
                        case rel => exact ⟨j + 1, by omega, by rw [HV.out], by go_num, hB7⟩
                    · have t3 : (c.b.tag != 4) = true := by simpa using tb
                      have HV : Hid (downTo cs (j + 1) = true) := by show _ = _; rw [HY.out, t3]; rfl
                      clear HY tb
                      go_wp2_with fail
                      go_roundg (cs.length - (j + 1))
                      case measure => omega
                      case rel => exact ⟨j + 1, by omega, by rw [HV.out], by go_num, hB7⟩
                  · have t1 : (c.a.tag != 4) = true := by simpa using ta
                    clear ha hA ta
                    by_cases tb : c.b.tag = 4
                    · have t3 : (c.b.tag != 4) = false := by rw [tb]; rfl
                      by_cases t4 : c.b.num < (j : Int)
                      · have HV : Hid (downTo cs (j + 1) = true) := by show _ = _; rw [HY.out]; simp [t4]
                        clear HY tb
                        go_wp2_with fail
                        go_roundg (cs.length - (j + 1))
                        case measure => omega
                        case rel => exact ⟨j + 1, by omega, by rw [HV.out], by go_num, hB7⟩
                      · have HV : Hid (downTo cs (j + 1) = false) := by show _ = _; rw [HY.out, t3]; simp [t4]
                        clear HY tb
                        go_wp2_with fail
                        go_roundg (cs.length - (j + 1))
                        case measure => omega
                        case rel => exact ⟨j + 1, by omega, by rw [HV.out], by go_num, hB7⟩
                    · have t3 : (c.b.tag != 4) = true := by simpa using tb
                      have HV : Hid (downTo cs (j + 1) = true) := by show _ = _; rw [HY.out, t3]; rfl
                      clear HY tb
                      go_wp2_with fail
                      go_roundg (cs.length - (j + 1))
                      case measure => omega
                      case rel => exact ⟨j + 1, by omega, by rw [HV.out], by go_num, hB7⟩
    · obtain rfl : j = cs.length := by omega
      have hji : ¬ (cs.length : Int) < (cs.length : Int) := by omega
      cases hd : downTo cs cs.length
      · clear hinR
        go_wp2_with fail
        go_ret
        exact ⟨rfl, (KB.out _ hE).2⟩
      · have h0 : (R.length : Int) = 0 := by rw [HN.out hd]; rfl
        clear hinR
        go_wp2_with fail
        go_ret
        exact ⟨rfl, (KB.out _ hE).2⟩
end Go.Proofs.Ytndpioniobhbmaa
