/-
  The specification's l3Tidy, of every expression that is ok.
  How many parts an expression has; szExpr bounds it; expressions whose fields are marks.
  The specification's l3Free.
  NameTidy, the program's and the specification's.
-/
import Derived.Test.YtkjppjhmejkidaaDoorNtSpecN
import Derived.Test.YtkjppjhmejkidaaDoorNtSpecO
import Derived.Test.YtkjppjhmejkidaaDoorNtSpecT
import Derived.Test.YtkjppjhmejkidaaDoorNtAll10
import Derived.Test.YtkjppjhmejkidaaDoorNtAll9
import Derived.Test.YtkjppjhmejkidaaDoorNtAll7
import Derived.Test.YtkjppjhmejkidaaDoorNtAll12
namespace Go.Proofs.YtkjppjhmejkidaaDoor
open Go.RowKit

theorem spec_l3Tidy (ns fl : List ByteArray) (hns : ns.length = 28) (hnx : NextIs ns fl) (e : Ex) : SpecTidy ns fl e := by
  induction e using Ex.ind with
  | h e ih =>
    by_cases h3 : e.kind = 3
    · exact spec_var ns fl hns e h3
    · by_cases h2 : e.kind = 7 ∨ e.kind = 14
      · exact spec_two ns fl hns hnx e ih h3 h2
      · by_cases h1 : e.kind = 4 ∨ e.kind = 6
        · exact spec_one ns fl hns hnx e ih h3 h1
        · exact spec_none ns fl hns e ih h3 (by omega)
end Go.Proofs.YtkjppjhmejkidaaDoor

namespace Go.Proofs.YtkjppjhmejkidaaDoor
open Go.RowKit

mutual
/-- How many parts there are, with it. -/
def cntM : Ex → Nat
  | .mk _ _ _ _ ks => 1 + cntAll ks
def cntAll : List Ex → Nat
  | [] => 0
  | e :: es => cntM e + cntAll es
end
theorem cntM_eq (e : Ex) : cntM e = 1 + cntAll e.kids := by cases e; rw [cntM]; rfl
theorem cntAll_append (a b : List Ex) : cntAll (a ++ b) = cntAll a + cntAll b := by
  induction a with
  | nil => simp [cntAll]
  | cons x a ih => rw [List.cons_append, cntAll, cntAll, ih]; omega
theorem cntAll_take (es : List Ex) (k : Nat) (h : k < es.length) : cntAll (es.take (k + 1)) = cntAll (es.take k) + (1 + cntAll es[k].kids) := by
  rw [List.take_succ_eq_append_getElem h, cntAll_append, cntAll, cntAll, cntM_eq]; omega
theorem cntAll_le (es : List Ex) (k : Nat) : cntAll (es.take k) ≤ cntAll es := by
  have := cntAll_append (es.take k) (es.drop k)
  rw [List.take_append_drop] at this; omega

/-- What szExpr does with one expression. -/
def SzC (e : Ex) : Prop := ∀ (w : World) (s : Value) (left : Int), Lies w (· < w.heap.size) e.kids s → 0 ≤ left → left ≤ 1048576 →
  Calls Tryd.prog 4 #[e.val s, .int .i64 left] w fun r w' => (∃ n : Int, r = .returned (.int .i64 n) ∧ n ≤ left ∧ (0 ≤ n → e.Wee ∧ (cntAll e.kids : Int) + n ≤ left)) ∧ Below w.heap.size w w'

theorem cnt_snoc (es : List Ex) (k : Nat) (m n left : Int) (hlt : k < es.length) (h : (cntAll (es.take k) : Int) + m + (es.length - k) ≤ left) (hw : 0 ≤ n → es[k].Wee ∧ (cntAll es[k].kids : Int) + n ≤ m) (hn : 0 ≤ n) : Hid ((cntAll (es.take (k + 1)) : Int) + n + (es.length - ((k + 1 : Nat) : Int)) ≤ left) := by
  show _ ≤ _
  have := (hw hn).2
  rw [cntAll_take es k hlt]
  push_cast
  omega

set_option maxHeartbeats 400000 in
theorem szCS (es : List Ex) (hlen : es.length ≤ maxLen) (ih : ∀ e ∈ es, SzC e) (w : World) (v : Value) (left : Int) (hv : Lies w (· < w.heap.size) es v) (h0 : 0 ≤ left) (h1 : left ≤ 1048576) :
    Calls Tryd.prog 11 #[v, .int .i64 left] w fun r w' => (∃ n : Int, r = .returned (.int .i64 n) ∧ n ≤ left ∧ (0 ≤ n → (es.length ≤ 1048576 ∧ ∀ x ∈ es, x.Wee) ∧ (cntAll es : Int) + n ≤ left)) ∧ Below w.heap.size w w' := by
  unfold maxLen at hlen
  obtain ⟨a, cap, rfl⟩ := hv.slice
  by_cases hneg : left - es.length < 0
  · go_enter Tryd.func11, Tryd.ntmps11
    go_wp2_with fail
    go_ret
    exact ⟨⟨_, rfl, by omega, by omega⟩, Below.refl _ _⟩
  · go_enter Tryd.func11, Tryd.ntmps11
    go_wp2_with fail
    go_loopw [1, 5] (fun l i wr => ∃ (k : Nat) (m : Int), k ≤ es.length ∧ i = .int .i64 k ∧ l = .int .i64 m ∧ 0 ≤ m ∧ m ≤ left ∧ Hid (∀ i (hi : i < es.length), i < k → (es[i]).Wee) ∧ Hid ((cntAll (es.take k) : Int) + m + (es.length - (k : Int)) ≤ left) ∧ Below w.heap.size w wr) (fun _ i _ => es.length - (intOf i).toNat)
    case atStart => exact ⟨0, _, by omega, rfl, rfl, by omega, by omega, fun _ _ h => absurd h (by omega), by show _ ≤ _; simp [cntAll], Below.refl _ _⟩
    case round =>
      obtain ⟨k, m, hk, rfl, rfl, hm0, hm1, hwee, hcnt, hb⟩ := hrel
      by_cases hlt : k < es.length
      · obtain ⟨b, off, cap', s, hS, hsl, hr, hl⟩ := hv.at (List.getElem?_eq_getElem hlt)
        obtain ⟨rfl, rfl⟩ : a = some ⟨b, off, none⟩ ∧ cap = cap' := by simpa using hsl
        obtain ⟨c0, c1, c2, c3, c4⟩ := Ex.five (rangeAt_same (hb.block b hS) hr)
        have hl' := (hl.keep hb hb.size)
        clear hr hl hsl
        go_wp2_with (go_at_call 4; refine (ih es[k] (List.getElem_mem hlt) _ _ _ hl' hm0 (by omega)).mono ?_; rintro e w' ⟨⟨n, rfl, hn, hw⟩, hb2⟩; have HW : Hid (0 ≤ n → es[k].Wee ∧ (cntAll es[k].kids : Int) + n ≤ m) := hw; clear hw)
        · go_ret
          exact ⟨⟨_, rfl, by omega, by omega⟩, hb.trans (hb2.mono hb.size)⟩
        · go_roundw
          case rel => exact ⟨k + 1, n, by omega, by go_num, rfl, by omega, by omega, wee_snoc es k n hlt hwee.out (fun h => (HW.out h).1) (by omega), cnt_snoc es k m n left hlt hcnt.out HW.out (by omega), hb.trans (hb2.mono hb.size)⟩
          case measure => simp [intOf]; omega
      · have HC : Hid ((cntAll es : Int) + m ≤ left) := by
          have := hcnt.out
          rw [List.take_of_length_le (by omega)] at this
          show _ ≤ _
          omega
        go_wp2_with fail
        go_ret
        exact ⟨⟨_, rfl, by omega, fun _ => ⟨⟨by omega, wee_all es (fun i hi => hwee.out i hi (by omega))⟩, HC.out⟩⟩, hb⟩

set_option maxHeartbeats 400000 in
theorem szC (e : Ex) : e.Fit → SzC e := by
  induction e using Ex.ind with
  | h e ih =>
    intro hf w s left hv h0 h1
    obtain ⟨_, hn, ht, hk, hx⟩ := hf
    have ihS := szCS e.kids hk (fun x hx' => ih x hx' (hx x hx'))
    unfold maxLen at hn ht hk
    by_cases hneg1 : left - e.name.size < 0
    · go_enter Tryd.func4, Tryd.ntmps4
      go_wp2_with fail
      go_ret
      exact ⟨⟨_, rfl, by omega, by omega⟩, (Below.refl _ _).alloc (Nat.le_refl _) _⟩
    by_cases hneg2 : left - e.name.size - e.tail.size < 0
    · go_enter Tryd.func4, Tryd.ntmps4
      go_wp2_with fail
      go_ret
      exact ⟨⟨_, rfl, by omega, by omega⟩, (Below.refl _ _).alloc (Nat.le_refl _) _⟩
    have hv' : ∀ o, Lies (w.alloc o) (· < (w.alloc o).heap.size) e.kids s := fun o => hv.keep ((Below.refl _ _).alloc (Nat.le_refl _) o) (by simp)
    go_enter Tryd.func4, Tryd.ntmps4
    go_wp2_with (go_at_call 11; refine (ihS _ _ _ (hv' _) (by omega) (by omega)).mono ?_; rintro r w' ⟨⟨n, rfl, hn, hw⟩, hb2⟩; have HW : Hid (0 ≤ n → (e.kids.length ≤ 1048576 ∧ ∀ x ∈ e.kids, x.Wee) ∧ (cntAll e.kids : Int) + n ≤ left - e.name.size - e.tail.size) := hw; clear hw)
    all_goals go_ret
    all_goals exact ⟨⟨_, rfl, by omega, fun hn0 => ⟨.mk e (HW.out (by omega)).1.1 (HW.out (by omega)).1.2, by have := (HW.out (by omega)).2; omega⟩⟩, ((Below.refl _ _).alloc (Nat.le_refl _) _).trans (hb2.mono (by simp))⟩

/-- The figures of a number ahead of a text. -/
def mtx (k : Nat) (out : ByteArray) : ByteArray := if k = 0 then out else mtx (k / 10) (⟨#[UInt8.ofNat (48 + k % 10)]⟩ ++ out)
termination_by k
decreasing_by omega
/-- The mark of a number. -/
def markT (k : Nat) : ByteArray := ⟨#[109]⟩ ++ mtx k ⟨#[]⟩
mutual
/-- An expression marked from a number on. -/
def markM : Ex → Nat → Ex
  | .mk _ _ _ _ ks, k => .mk k (markT (k + 1)) (markT (k + 2)) ((k + 3 : Nat) : Int) (markAll ks (k + 4))
def markAll : List Ex → Nat → List Ex
  | [], _ => []
  | e :: es, k => markM e k :: markAll es (k + 4 * cntM e)
end
theorem markM_eq (e : Ex) (k : Nat) : markM e k = .mk k (markT (k + 1)) (markT (k + 2)) ((k + 3 : Nat) : Int) (markAll e.kids (k + 4)) := by cases e; rw [markM]; rfl
theorem markAll_append (a b : List Ex) : ∀ k, markAll (a ++ b) k = markAll a k ++ markAll b (k + 4 * cntAll a) := by
  induction a with
  | nil => intro k; simp [markAll, cntAll]
  | cons x a ih =>
    intro k
    rw [List.cons_append, markAll, markAll, ih, cntAll, List.cons_append]
    congr 3; omega
theorem markAll_length (es : List Ex) : ∀ k, (markAll es k).length = es.length := by
  induction es with
  | nil => intro k; simp [markAll]
  | cons x a ih => intro k; rw [markAll, List.length_cons, List.length_cons, ih]
theorem markAll_get (es : List Ex) (k i : Nat) (h : i < es.length) : (markAll es k)[i]? = some (markM es[i] (k + 4 * cntAll (es.take i))) := by
  have h1 : es = es.take i ++ (es[i] :: es.drop (i + 1)) := by rw [← List.drop_eq_getElem_cons h, List.take_append_drop]
  conv => lhs; rw [h1]
  rw [markAll_append, List.getElem?_append_right (by rw [markAll_length]; simp; omega), markAll_length, markAll]
  simp [Nat.min_eq_left (Nat.le_of_lt h)]
/-- The first i are marked. -/
def markTo (es : List Ex) (k i : Nat) : List Ex := markAll (es.take i) k ++ es.drop i
theorem markTo_length (es : List Ex) (k i : Nat) (h : i ≤ es.length) : (markTo es k i).length = es.length := by
  rw [markTo, List.length_append, markAll_length]; simp; omega
theorem markTo_zero (es : List Ex) (k : Nat) : markTo es k 0 = es := by simp [markTo, markAll]
theorem markTo_end (es : List Ex) (k : Nat) : markTo es k es.length = markAll es k := by simp [markTo]
theorem markTo_get (es : List Ex) (k i : Nat) (h : i < es.length) (h' : i < (markTo es k i).length) : (markTo es k i)[i] = es[i] := by
  have : (markTo es k i)[i]? = some es[i] := by
    rw [markTo, List.getElem?_append_right (by rw [markAll_length]; simp; omega), markAll_length, List.length_take, Nat.min_eq_left (Nat.le_of_lt h), Nat.sub_self, List.drop_eq_getElem_cons h]; rfl
  rw [List.getElem?_eq_getElem h'] at this
  exact Option.some.inj this
theorem markTo_next (es : List Ex) (k i : Nat) (h : i < es.length) : (markTo es k i).set i (markM es[i] (k + 4 * cntAll (es.take i))) = markTo es k (i + 1) := by
  have hl : (markAll (es.take i) k).length = i := by rw [markAll_length]; simp; omega
  rw [markTo, List.set_append_right _ _ (by omega), hl, Nat.sub_self, List.drop_eq_getElem_cons h, List.set_cons_zero, markTo, List.take_succ_eq_append_getElem h, markAll_append, markAll, markAll, List.append_assoc]
  rfl
end Go.Proofs.YtkjppjhmejkidaaDoor

namespace Go.Proofs.YtkjppjhmejkidaaDoor
open Go.RowKit

/-- What l3Free does with an expression. -/
def SpecFree (e : Ex) : Prop := ∀ (w : World) (s : Value) (d : Int), e.Wee → Lies w (· < w.heap.size) e.kids s → sizeM e d ≤ 60 →
  Calls Tryd.prog 14 #[e.val s] w fun r w' => Bound w w' (freeM e) r

theorem one_env (w : World) (s : ByteArray) (n : Nat) (hn : n = w.heap.size) : Env (w.alloc (.cells #[.string s] 9)) [s] (.slice (some ⟨n, 0, none⟩) 1 1) := by
  subst hn
  refine Or.inl ⟨by simp, Or.inr ⟨w.heap.size, 1, #[.string s], rfl, by omega, ?_, by simp, by unfold maxLen; omega, by simp, by simp⟩⟩
  exact heap_alloc_new w _

set_option maxHeartbeats 2000000 in
theorem free_walk (e : Ex) (ih : ∀ x ∈ e.kids, SpecFree x) : SpecFree e := by
  intro w s d hw hv hsz
  have hM := freeM_eq e
  obtain ⟨_, hk, hw'⟩ := hw
  obtain ⟨a, cap, rfl⟩ := hv.slice
  by_cases h3 : e.kind = 3
  · rw [if_pos h3] at hM
    have HM : Hid (freeM e = [e.name]) := hM
    have h3' : (e.kind == 3) = true := by simpa using h3
    clear hM h3
    go_enter Tryd.func14, Tryd.ntmps14
    go_wp2_with fail
    go_ret
    exact ⟨_, rfl, by rw [HM.out]; exact one_env _ _ _ (by simp), below_al (below_al0 _ _)⟩
  · rw [if_neg h3] at hM
    have HM : Hid (freeM e = freeAll (e.kids.drop 0) 0 e.bindsAt []) := hM
    have h3' : (e.kind == 3) = false := by simpa using h3
    have HZ : Hid (sizeM e d = sizeAll (e.kids.drop 0) (d + 1) 1) := by
      show _ = _
      rw [sizeM_eq] at hsz ⊢
      split at hsz
      · omega
      · rename_i hs; rw [if_neg hs]; rfl
    clear hM h3
    go_enter Tryd.func14, Tryd.ntmps14
    go_wp2_with fail
    go_loopw [3, 4] (fun u i wr => ∃ (k : Nat) (m : Int) (out : List ByteArray), k ≤ e.kids.length ∧ i = .int .i64 k ∧ Env wr out u ∧ Hid (freeM e = freeAll (e.kids.drop k) k e.bindsAt out) ∧ Hid (sizeM e d = sizeAll (e.kids.drop k) (d + 1) m) ∧ (out.length : Int) ≤ m ∧ m ≤ 60 ∧ Below (w.heap.size + 1) (w.alloc (.cells #[.int .i64 e.kind, .string e.name, .string e.tail, .int .i64 e.num, .slice a e.kids.length cap] 28)) wr) (fun _ i _ => e.kids.length - (intOf i).toNat)
    case atStart => exact ⟨0, 1, [], by omega, rfl, Or.inr ⟨_, rfl, rfl⟩, HM, HZ, by simp, by omega, (Below.refl _ _).alloc (by simp) _⟩
    case round =>
      obtain ⟨k, m, out, hkl, rfl, hE, HF, HS, hom, hm60, hB⟩ := hrel
      have hbw := below_of_box hB
      obtain ⟨p0, p1, p2, p3, p4⟩ := box5 hB
      by_cases hlt : k < e.kids.length
      · obtain ⟨b, off, cap', s1, hSb, hsl, hr, hl⟩ := hv.at (List.getElem?_eq_getElem hlt)
        obtain ⟨rfl, rfl⟩ : a = some ⟨b, off, none⟩ ∧ cap = cap' := by simpa using hsl
        obtain ⟨c0, c1, c2, c3, c4⟩ := Ex.five (rangeAt_same (hbw.block b hSb) hr)
        have hl' := hl.keep hbw hbw.size
        have HX : Hid (freeAll (e.kids.drop k) k e.bindsAt out = freeAll (e.kids.drop (k + 1)) ((k : Int) + 1) e.bindsAt (allM out (lessAll (freeM e.kids[k]) (e.bindsAt k)))) := freeAll_drop _ _ _ _ k hlt
        have hsd := sizeAll_drop e.kids (d + 1) m k hlt
        have hsb := (sizeM_bd e.kids[k] (d + 1)).1
        have hle : m + sizeM e.kids[k] (d + 1) ≤ 60 := by
          apply Decidable.byContradiction; intro hc
          rw [if_pos (by omega), ← HS.out] at hsd; omega
        have HS2 : Hid (sizeM e d = sizeAll (e.kids.drop (k + 1)) (d + 1) (m + sizeM e.kids[k] (d + 1))) := by
          show _ = _
          rw [HS.out, hsd, if_neg (by omega)]
        have hsk : sizeM e.kids[k] (d + 1) ≤ 60 := by omega
        have hfl := freeM_length e.kids[k] (d + 1) hsk
        have hih := ih e.kids[k] (List.getElem_mem hlt)
        have hwk := hw' e.kids[k] (List.getElem_mem hlt)
        have hbt := bindsL_two e.kind e.name e.tail k
        clear hr hl hsl hsd ih
        go_wp2_with (first
          | (go_at_call 14; refine (hih _ _ (d + 1) hwk hl' hsk).mono ?_; rintro r w1 ⟨v1, rfl, he1, hb1⟩; have hB1 := below_box_trans hB hb1; clear p0 p1 p2 p3 p4; obtain ⟨p0, p1, p2, p3, p4⟩ := box5 hB1)
          | (go_at_call 26; refine (spec_l3Binds _ _ _ _ _ _ _).mono ?_; rintro r w2 ⟨v2, rfl, he2, hb2⟩; have he12 := Env.keep he1 hb2; have hb12 := below_next hb1 hb2; obtain ⟨ad2, cap2, rfl, hcell2⟩ := he2.open))
        go_loopw [5, 7] (fun u i wi => ∃ j : Nat, j ≤ (bindsL e.kind e.name e.tail k).length ∧ i = .int .i64 j ∧ Env wi (lessAll (freeM e.kids[k]) ((bindsL e.kind e.name e.tail k).take j)) u ∧ Below w2.heap.size w2 wi) (fun _ i _ => (bindsL e.kind e.name e.tail k).length - (intOf i).toNat)
        case atStart => exact ⟨0, by omega, rfl, he12, Below.refl _ _⟩
        case round =>
          obtain ⟨j, hj, rfl, hE2, hB2⟩ := hrel
          have hll := lessAll_length (freeM e.kids[k]) ((bindsL e.kind e.name e.tail k).take j)
          have hll2 : (lessAll (freeM e.kids[k]) ((bindsL e.kind e.name e.tail k).take j)).length ≤ 1000000 := by omega
          by_cases hjt : j < (bindsL e.kind e.name e.tail k).length
          · obtain ⟨g, rfl, hck⟩ := hcell2 j hjt
            have hck' : wr.cell? ⟨g, j, none⟩ = some (.string (bindsL e.kind e.name e.tail k)[j]) := by rw [← hck]; exact hB2.cell (World.block_lt_of_cell? w2 _ hck)
            have HL : Hid (lessAll (freeM e.kids[k]) ((bindsL e.kind e.name e.tail k).take (j + 1)) = _) := lessAll_take (freeM e.kids[k]) (bindsL e.kind e.name e.tail k) j hjt
            clear hck hcell2 c0 c1 c2 c3 c4 p0 p1 p2 p3 p4
            go_wp2_with (go_at_call 27; refine (spec_l3Less _ _ _ _ hll2 hE2).mono ?_; rintro r w3 ⟨v3, rfl, he3, hb3⟩)
            go_roundw
            case rel => exact ⟨j + 1, by omega, by go_num, by rw [HL.out]; exact he3, below_next hB2 hb3⟩
            case measure => simp [intOf]; omega
          · have HL : Hid ((bindsL e.kind e.name e.tail k).take j = bindsL e.kind e.name e.tail k) := List.take_of_length_le (by omega)
            have hE3 := hE2
            rw [HL.out] at hE3
            have hb4 := below_next hb12 hB2
            have hE4 := Env.keep hE hb4
            have hll3 := lessAll_length (freeM e.kids[k]) (bindsL e.kind e.name e.tail k)
            have hB4 := below_box_trans hB hb4
            clear hll hll2 hcell2 c0 c1 c2 c3 c4 p0 p1 p2 p3 p4
            go_wp2_with (go_at_call 28; refine (spec_l3All _ _ _ _ _ (by omega) hE4 hE3).mono ?_; rintro r w5 ⟨v5, rfl, he5, hb5⟩)
            go_roundw
            case rel =>
              have h5 := allM_length out (lessAll (freeM e.kids[k]) (bindsL e.kind e.name e.tail k))
              exact ⟨k + 1, m + sizeM e.kids[k] (d + 1), _, by omega, by go_num, he5, by show _ = _; rw [HF.out, HX.out]; rfl, HS2, by omega, hle, below_box_trans hB4 hb5⟩
            case measure => simp [intOf]; omega
      · have HE : Hid (freeM e = out) := by show _ = _; rw [HF.out, List.drop_eq_nil_of_le (by omega), freeAll]
        go_wp2_with fail
        go_ret
        exact ⟨_, rfl, by rw [HE.out]; exact hE, hbw⟩

theorem spec_l3Free (e : Ex) : SpecFree e := by
  induction e using Ex.ind with
  | h e ih => exact free_walk e ih
end Go.Proofs.YtkjppjhmejkidaaDoor

namespace Go.Proofs.YtkjppjhmejkidaaDoor
open Go.RowKit Go.Maps Go.WideMaps

theorem tidyTo_more (fl : List ByteArray) (k : Nat) : ∀ n, k ≤ n → ∃ r, tidyTo fl n = tidyTo fl k ++ r
  | 0, h => ⟨[], by obtain rfl : k = 0 := by omega
                    simp⟩
  | n + 1, h => by
    by_cases hk : k = n + 1
    · subst hk; exact ⟨[], by simp⟩
    · obtain ⟨r, hr⟩ := tidyTo_more fl k n (by omega)
      rw [tidyTo]
      split
      · exact ⟨r ++ [wName n], by rw [hr, List.append_assoc]⟩
      · exact ⟨r, hr⟩
/-- The names that are given, where fl are free. -/
def namesOf (fl : List ByteArray) : List ByteArray := (tidyTo fl 100).take 28
theorem namesOf_length (fl : List ByteArray) (h : fl.length ≤ 60) : (namesOf fl).length = 28 := by
  have h1 := tidy_hits fl 100
  have h2 := hits_le fl 100 (Nat.le_refl _)
  rw [namesOf, List.length_take]; omega
theorem namesOf_eq (fl : List ByteArray) (k : Nat) (hk : k ≤ 100) (h : (tidyTo fl k).length = 28) : tidyTo fl k = namesOf fl := by
  obtain ⟨r, hr⟩ := tidyTo_more fl k 100 hk
  rw [namesOf, hr, ← h, List.take_left']
  rfl
theorem next_is (fl : List ByteArray) (h : fl.length ≤ 60) : NextIs (namesOf fl) fl := fun j hj w v hv => by
  have hl := namesOf_length fl h
  refine (spec_l3Next fl v j w h (by omega) hv).mono ?_
  rintro r w' ⟨k, hk, rfl, ho, hlen, hb⟩
  refine ⟨?_, hb⟩
  have h1 := tidyTo_get fl k ho 100 hk
  rw [hlen] at h1
  have h2 : (namesOf fl)[j]? = some (wName k) := by rw [namesOf, List.getElem?_take_of_lt (by omega)]; exact h1
  rw [List.getElem?_eq_getElem hj] at h2
  rw [Option.some.inj h2]

/-- Nothing. -/
def noEx : Ex := .mk 0 ⟨#[]⟩ ⟨#[]⟩ 0 []
/-- An expression that is ok, tidied; nothing of others. -/
def tidyE (e : Ex) : Ex := if sizeM e 1 ≤ 60 then tidyM (namesOf (freeM e)) e [] else noEx
theorem tidyM_wee (ns : List ByteArray) (e : Ex) : e.Wee → ∀ l, (tidyM ns e l).Wee := by
  induction e using Ex.ind with
  | h e ih =>
    intro hw l
    obtain ⟨_, hk, hx⟩ := hw
    rw [tidyM_eq]
    refine .mk _ (by show (tidyKids ns e l).length ≤ _; rw [tidyKids_length]; exact hk) (fun x hx' => ?_)
    have hx'' : x ∈ tidyKids ns e l := hx'
    obtain ⟨i, hi, rfl⟩ := List.getElem_of_mem hx''
    have hi' : i < e.kids.length := by rw [tidyKids_length] at hi; exact hi
    rw [tidyKids_get ns e l i hi' hi]
    exact ih _ (List.getElem_mem hi') (hx _ (List.getElem_mem hi')) _
theorem tidyE_wee (e : Ex) (h : e.Wee) : (tidyE e).Wee := by
  rw [tidyE]
  split
  · exact tidyM_wee _ e h _
  · exact .mk _ (by simp [noEx, Ex.kids]) (fun x hx => by simp [noEx, Ex.kids] at hx)
theorem tidyAll_cnt (ns : List ByteArray) (es : List Ex) (ih : ∀ e ∈ es, ∀ l, cntM (tidyM ns e l) = cntM e) : ∀ (i : Int) (f : Int → List ByteArray), cntAll (tidyAll ns es i f) = cntAll es := by
  induction es with
  | nil => intro i f; rw [tidyAll]
  | cons e es ihl => intro i f; rw [tidyAll, cntAll, cntAll, ih e (by simp), ihl (fun x hx => ih x (by simp [hx]))]
theorem tidyM_cnt (ns : List ByteArray) (e : Ex) : ∀ l, cntM (tidyM ns e l) = cntM e := by
  induction e using Ex.ind with
  | h e ih =>
    intro l
    rw [tidyM_eq, cntM_eq, cntM_eq]
    show 1 + cntAll (tidyKids ns e l) = _
    rw [tidyKids, tidyAll_cnt ns e.kids ih]
theorem tidyE_cnt (e : Ex) : cntAll (tidyE e).kids ≤ cntAll e.kids := by
  rw [tidyE]
  split
  · have := tidyM_cnt (namesOf (freeM e)) e []
    rw [cntM_eq, cntM_eq] at this; omega
  · simp [noEx, Ex.kids, cntAll]

theorem lies_one' {w : World} {e : Ex} {s : Value} (h : Lies w (· < w.heap.size) e.kids s) (n : Nat) (hn : n = w.heap.size) : Lies (w.alloc (.cells #[.int .i64 e.kind, .string e.name, .string e.tail, .int .i64 e.num, s] 28)) (· < (w.alloc (.cells #[.int .i64 e.kind, .string e.name, .string e.tail, .int .i64 e.num, s] 28)).heap.size) [e] (.slice (some ⟨n, 0, none⟩) 1 1) := by
  subst hn
  refine .some w.heap.size 0 1 [e] [s] (by simp) rfl (fun i x y hx hy => ?_) (fun i x y hx hy => ?_)
  · have hi : i = 0 := by have := (List.getElem?_eq_some_iff.1 hx).1; simpa using this
    subst hi
    simp at hx hy
    subst hx; subst hy
    have h5 := Box5.new w (.int .i64 e.kind) (.string e.name) (.string e.tail) (.int .i64 e.num) s
    obtain ⟨c0, c1, c2, c3, c4⟩ := h5.cells
    simpa using five_is' c0 c1 c2 c3 c4
  · have hi : i = 0 := by have := (List.getElem?_eq_some_iff.1 hx).1; simpa using this
    subst hi
    simp at hx hy
    subst hx; subst hy
    exact lies_alloc h _
where
  five_is' {e : Ex} {s : Value} {w : World} {nb o : Nat} (h0 : w.cell? ⟨nb, o, none⟩ = some (.int .i64 e.kind)) (h1 : w.cell? ⟨nb, o + 1, none⟩ = some (.string e.name)) (h2 : w.cell? ⟨nb, o + 2, none⟩ = some (.string e.tail)) (h3 : w.cell? ⟨nb, o + 3, none⟩ = some (.int .i64 e.num)) (h4 : w.cell? ⟨nb, o + 4, none⟩ = some s) : w.rangeAt nb o (e.cells s) := by
    intro j v hj
    match j, hj with
    | 0, hj => cases hj; exact h0
    | 1, hj => cases hj; exact h1
    | 2, hj => cases hj; exact h2
    | 3, hj => cases hj; exact h3
    | 4, hj => cases hj; exact h4
theorem occs_one' (e : Ex) : occs [e] = occM e [] := by simp [occs]

set_option maxHeartbeats 1000000 in
theorem impl_NameTidy (e : Ex) (hf : e.Fit) (hw : e.Wee) (w : World) (s : Value) (hv : Lies w (· < w.heap.size) e.kids s) (hT : Tab w) :
    Calls Tryd.prog 7 #[e.val s] w fun r w' => MadeE w w' (tidyE e) r := by
  have hb2 : ∀ o1 o2, Below w.heap.size w ((w.alloc o1).alloc o2) := below_two w
  have hv1 : ∀ o1 o2, Lies ((w.alloc o1).alloc o2) (· < ((w.alloc o1).alloc o2).heap.size) e.kids s := fun o1 o2 => hv.keep (hb2 o1 o2) (hb2 o1 o2).size
  have hT1 : ∀ o1 o2, Tab ((w.alloc o1).alloc o2) := fun o1 o2 => hT.below (hb2 o1 o2) hT.pos
  obtain ⟨a, cap, rfl⟩ := hv.slice
  by_cases hok : sizeM e 1 ≤ 60
  · have hd : decide (sizeM e 1 ≤ 60) = true := by simpa using hok
    have HF : Hid (tidyE e = tidyM (namesOf (freeM e)) e []) := by show _ = _; rw [tidyE, if_pos hok]
    have hl60 : (freeM e).length ≤ 60 := by have := freeM_length e 1 hok; omega
    have hoc : (occM e []).length ≤ 60 := by have := occM_length e 1 [] hok; omega
    have hns := namesOf_length (freeM e) hl60
    have hfs := fun (w' : World) (v : Value) (h : Lies w' (· < w'.heap.size) [e] v) => impl_freeSet [e] v w' (by simp) (by simpa using hw) (by simpa using hf) (by simpa using hok) h
    rw [occs_one'] at hfs
    have htu := impl_tidyUnder (namesOf (freeM e)) hns e
    obtain ⟨t, ht⟩ : ∃ t, t = tidyM (namesOf (freeM e)) e [] := ⟨_, rfl⟩
    rw [← ht] at HF
    have htu2 : ∀ (w : World) (v : Value), Lies w (· < w.heap.size) e.kids (.slice a e.kids.length cap) → Env w (namesOf (freeM e)) v → Calls Tryd.prog 17 #[e.val (.slice a e.kids.length cap), .slice none 0 0, v] w fun r w' => MadeE w w' t r := fun w v h1 h2 => by rw [ht]; exact htu w _ _ v [] 1 hw h1 (Env.nil _) h2 hok (by omega) (by simp)
    have hsame := tidyTo_same (oft_same e 1 hok)
    clear ht htu
    go_enter Tryd.func7, Tryd.ntmps7
    go_wp2_with (go_at_call 16; refine (impl_ExprOk e hf _ _ (hv1 _ _) (hT1 _ _)).mono ?_; rintro r w2 ⟨rfl, hb3⟩; rw [hd]; obtain ⟨p0, p1, p2, p3, p4⟩ := box_first hb3; have hqq := box_second hb3; have hz := hb3.size; simp at hz; have hz1 : w.heap.size + 1 < w2.heap.size := (by omega); have hB2 : Below w.heap.size w w2 := below_next (hb2 _ _) hb3)
    have hv2 := hv.keep hB2 hB2.size
    have HS : ∀ w', Below (w.heap.size + 1) w2 w' → (w'.cell? ⟨w.heap.size, 0, none⟩ = some (.int .i64 e.kind) ∧ w'.cell? ⟨w.heap.size, 1, none⟩ = some (.string e.name) ∧ w'.cell? ⟨w.heap.size, 2, none⟩ = some (.string e.tail) ∧ w'.cell? ⟨w.heap.size, 3, none⟩ = some (.int .i64 e.num) ∧ w'.cell? ⟨w.heap.size, 4, none⟩ = some (.slice a e.kids.length cap)) := fun w' h => by
      rw [h.cell (by dsimp only; omega), h.cell (by dsimp only; omega), h.cell (by dsimp only; omega), h.cell (by dsimp only; omega), h.cell (by dsimp only; omega)]
      exact ⟨p0, p1, p2, p3, p4⟩
    have HS' : ∀ w', Below w2.heap.size w2 w' → (w'.cell? ⟨w.heap.size, 0, none⟩ = some (.int .i64 e.kind) ∧ w'.cell? ⟨w.heap.size, 1, none⟩ = some (.string e.name) ∧ w'.cell? ⟨w.heap.size, 2, none⟩ = some (.string e.tail) ∧ w'.cell? ⟨w.heap.size, 3, none⟩ = some (.int .i64 e.num) ∧ w'.cell? ⟨w.heap.size, 4, none⟩ = some (.slice a e.kids.length cap)) := fun w' h => HS w' (h.mono (by omega))
    go_region_held3 (fun w' => w'.cell? ⟨w.heap.size, 0, none⟩ = some (.int .i64 e.kind) ∧ w'.cell? ⟨w.heap.size, 1, none⟩ = some (.string e.name) ∧ w'.cell? ⟨w.heap.size, 2, none⟩ = some (.string e.tail) ∧ w'.cell? ⟨w.heap.size, 3, none⟩ = some (.int .i64 e.num) ∧ w'.cell? ⟨w.heap.size, 4, none⟩ = some (.slice a e.kids.length cap))
      (first | exact HS _ hc6 | exact HS' _ hc5 | exact HS' _ hc4 | exact HS' _ hc3 | exact HS' _ (below_al0 _ _).drew | exact HS' _ (Below.refl _ _).drew)
      (first
        | (go_at_call 19; refine (hfs _ _ (Lies.drew (lies_one' hv2 _ rfl))).mono ?_; rintro r w3 ⟨rfl, hH3, hb4⟩; have hc3 : Below w2.heap.size w2 w3 := below_next (below_al0 _ _).drew hb4; have hH4 : Holds w3 (w2.heap.size + 1) (occM e []) := (by simpa [World.drew] using hH3))
        | (go_at_call 18; refine (impl_tidyNames (occM e []) _ _ hoc hH4).mono ?_; rintro r w4 ⟨v4, k4, rfl, hk4, hlen4, hA4, hb5⟩; have hc4 := below_next hc3 hb5; rw [hsame] at hlen4 hA4; rw [namesOf_eq _ _ hk4 hlen4] at hA4)
        | (go_at_call 17; refine (htu2 _ _ (hv2.keep hc4 hc4.size) (App.base hA4 (Nat.zero_le _))).mono ?_; rintro r w5 ⟨s5, rfl, ht5, hb6⟩; have hc5 := below_next hc4 hb6; obtain ⟨a5, cap5, rfl⟩ := ht5.slice; obtain ⟨q0, q1, q2, q3, q4⟩ := five_al hqq.1 hz1 hc5; have qf := froz_al hqq.2 hz1 hc5; have hc6 : Below (w.heap.size + 1) w2 (put5 w5 (w.heap.size + 1) 0 t (.slice a5 t.kids.length cap5)) := (by rw [put5_eq]; exact Below.setCells (by omega) _ _ _ (hc5.mono (by omega)))))
    have hz5 := hc5.size
    go_wp2_with fail
    refine bodyPost_ret (v := .agg #[.int .i64 t.kind, .string t.name, .string t.tail, .int .i64 t.num, .slice a5 t.kids.length cap5]) (by simp [results, Tryd.results7, go_sem, q0, q1, q2, q3, q4]) rfl ⟨.slice a5 t.kids.length cap5, by rw [HF.out], ?_, ?_⟩
    · rw [HF.out]
      have hzz4 : w.heap.size + 1 + 1 ≤ w4.heap.size := by have := hc4.size; omega
      clear q0 q1 q2 q3 q4 qf p0 p1 p2 p3 p4 hqq HS HS'
      refine Tree.wide (lo := w4.heap.size) (hi := w5.heap.size) ?_ (by omega) (by simp [World.setCell])
      repeat (refine tree_set ?_ (by dsimp only; omega))
      exact ht5
    · have hB5 := below_next hB2 hc5
      clear q0 q1 q2 q3 q4 qf p0 p1 p2 p3 p4 hqq HS HS'
      repeat (refine Below.setCell ?_ (by dsimp only; omega) _)
      exact hB5
  · have hd : decide (sizeM e 1 ≤ 60) = false := by simpa using hok
    have HF : Hid (tidyE e = noEx) := by show _ = _; rw [tidyE, if_neg hok]
    go_enter Tryd.func7, Tryd.ntmps7
    go_wp2_with (go_at_call 16; refine (impl_ExprOk e hf _ _ (hv1 _ _) (hT1 _ _)).mono ?_; rintro r w2 ⟨rfl, hb3⟩; rw [hd]; obtain ⟨⟨q0, q1, q2, q3, q4⟩, qf⟩ := box_second hb3; have hz := hb3.size; simp at hz; have hz1 : w.heap.size + 1 < w2.heap.size := (by omega); have hB2 : Below w.heap.size w w2 := below_next (hb2 _ _) hb3)
    refine bodyPost_ret (v := .agg #[.int .i64 0, .string ⟨#[]⟩, .string ⟨#[]⟩, .int .i64 0, .slice none 0 0]) (by simp [results, Tryd.results7, go_sem, q0, q1, q2, q3, q4]) rfl ⟨.slice none 0 0, by rw [HF.out]; rfl, by rw [HF.out]; exact .none _ _ _ _, ?_⟩
    clear q0 q1 q2 q3 q4 qf
    repeat (refine Below.setCell ?_ (by dsimp only; omega) _)
    exact hB2
set_option maxHeartbeats 1000000 in
theorem spec_NameTidy (e : Ex) (hf : e.Fit) (hw : e.Wee) (w : World) (s : Value) (hv : Lies w (· < w.heap.size) e.kids s) :
    Calls Tryd.prog 5 #[e.val s] w fun r w' => MadeL w w' (tidyE e) r := by
  have hb2 : ∀ o1 o2, Below w.heap.size w ((w.alloc o1).alloc o2) := below_two w
  have hv1 : ∀ o1 o2, Lies ((w.alloc o1).alloc o2) (· < ((w.alloc o1).alloc o2).heap.size) e.kids s := fun o1 o2 => hv.keep (hb2 o1 o2) (hb2 o1 o2).size
  obtain ⟨a, cap, rfl⟩ := hv.slice
  by_cases hok : sizeM e 1 ≤ 60
  · have hd : decide (sizeM e 1 ≤ 60) = true := by simpa using hok
    have HF : Hid (tidyE e = tidyM (namesOf (freeM e)) e []) := by show _ = _; rw [tidyE, if_pos hok]
    have hl60 : (freeM e).length ≤ 60 := by have := freeM_length e 1 hok; omega
    have hns := namesOf_length (freeM e) hl60
    have htu := spec_l3Tidy (namesOf (freeM e)) (freeM e) hns (next_is (freeM e) hl60) e
    obtain ⟨t, ht⟩ : ∃ t, t = tidyM (namesOf (freeM e)) e [] := ⟨_, rfl⟩
    rw [← ht] at HF
    have htu2 : ∀ (w : World) (v : Value), Lies w (· < w.heap.size) e.kids (.slice a e.kids.length cap) → Env w (freeM e) v → Calls Tryd.prog 13 #[e.val (.slice a e.kids.length cap), v, .slice none 0 0, .slice none 0 0] w fun r w' => MadeL w w' t r := fun w v h1 h2 => by rw [ht]; exact htu w _ v _ _ [] 1 hw h1 h2 (Env.nil _) (by simpa using Env.nil _) hok (by omega) (by simp)
    clear ht htu
    go_enter Tryd.func5, Tryd.ntmps5
    go_wp2_with (go_at_call 12; refine (spec_l1Ok e hf _ _ (hv1 _ _)).mono ?_; rintro r w2 ⟨rfl, hb3⟩; rw [hd]; obtain ⟨p0, p1, p2, p3, p4⟩ := box_first hb3; have hqq := box_second hb3; have hz := hb3.size; simp at hz; have hz1 : w.heap.size + 1 < w2.heap.size := (by omega); have hB2 : Below w.heap.size w w2 := below_next (hb2 _ _) hb3)
    have hv2 := hv.keep hB2 hB2.size
    have hd2 : Below w2.heap.size w2 w2.drew := (Below.refl _ _).drew
    have HS : ∀ w', Below (w.heap.size + 1) w2 w' → (w'.cell? ⟨w.heap.size, 0, none⟩ = some (.int .i64 e.kind) ∧ w'.cell? ⟨w.heap.size, 1, none⟩ = some (.string e.name) ∧ w'.cell? ⟨w.heap.size, 2, none⟩ = some (.string e.tail) ∧ w'.cell? ⟨w.heap.size, 3, none⟩ = some (.int .i64 e.num) ∧ w'.cell? ⟨w.heap.size, 4, none⟩ = some (.slice a e.kids.length cap)) := fun w' h => by
      rw [h.cell (by dsimp only; omega), h.cell (by dsimp only; omega), h.cell (by dsimp only; omega), h.cell (by dsimp only; omega), h.cell (by dsimp only; omega)]
      exact ⟨p0, p1, p2, p3, p4⟩
    have HS' : ∀ w', Below w2.heap.size w2 w' → (w'.cell? ⟨w.heap.size, 0, none⟩ = some (.int .i64 e.kind) ∧ w'.cell? ⟨w.heap.size, 1, none⟩ = some (.string e.name) ∧ w'.cell? ⟨w.heap.size, 2, none⟩ = some (.string e.tail) ∧ w'.cell? ⟨w.heap.size, 3, none⟩ = some (.int .i64 e.num) ∧ w'.cell? ⟨w.heap.size, 4, none⟩ = some (.slice a e.kids.length cap)) := fun w' h => HS w' (h.mono (by omega))
    go_region_held3 (fun w' => w'.cell? ⟨w.heap.size, 0, none⟩ = some (.int .i64 e.kind) ∧ w'.cell? ⟨w.heap.size, 1, none⟩ = some (.string e.name) ∧ w'.cell? ⟨w.heap.size, 2, none⟩ = some (.string e.tail) ∧ w'.cell? ⟨w.heap.size, 3, none⟩ = some (.int .i64 e.num) ∧ w'.cell? ⟨w.heap.size, 4, none⟩ = some (.slice a e.kids.length cap))
      (first | exact HS _ hc6 | exact HS' _ hc5 | exact HS' _ hc3 | exact HS' _ hd2)
      (first
        | (go_at_call 14; refine (spec_l3Free e _ _ 1 hw (hv2.keep hd2 (Nat.le_refl _)) hok).mono ?_; rintro r w3 ⟨v3, rfl, he3, hb4⟩; have hc3 := below_next hd2 hb4)
        | (go_at_call 13; refine (htu2 _ _ (hv2.keep hc3 hc3.size) he3).mono ?_; rintro r w5 ⟨s5, rfl, ht5, hb6⟩; have hc5 := below_next hc3 hb6; obtain ⟨a5, cap5, rfl⟩ := ht5.slice; obtain ⟨q0, q1, q2, q3, q4⟩ := five_al hqq.1 hz1 hc5; have qf := froz_al hqq.2 hz1 hc5; have hc6 : Below (w.heap.size + 1) w2 (put5 w5 (w.heap.size + 1) 0 t (.slice a5 t.kids.length cap5)) := (by rw [put5_eq]; exact Below.setCells (by omega) _ _ _ (hc5.mono (by omega)))))
    have hz5 := hc5.size
    go_wp2_with fail
    refine bodyPost_ret (v := .agg #[.int .i64 t.kind, .string t.name, .string t.tail, .int .i64 t.num, .slice a5 t.kids.length cap5]) (by simp [results, Tryd.results5, go_sem, q0, q1, q2, q3, q4]) rfl ⟨.slice a5 t.kids.length cap5, by rw [HF.out], ?_, ?_⟩
    · rw [HF.out]
      have hzz4 : w.heap.size + 1 + 1 ≤ w3.heap.size := by have := hc3.size; omega
      clear q0 q1 q2 q3 q4 qf p0 p1 p2 p3 p4 hqq HS HS'
      refine Lies.same (S := fun b => w3.heap.size ≤ b ∧ b < w5.heap.size) ?_ (fun b hb => ⟨rfl, by omega, by simp [World.setCell]; omega⟩)
      repeat (refine lies_set ?_ (fun h => by have h1 := h.1; dsimp only at h1; omega))
      exact ht5
    · have hB5 := below_next hB2 hc5
      clear q0 q1 q2 q3 q4 qf p0 p1 p2 p3 p4 hqq HS HS'
      repeat (refine Below.setCell ?_ (by dsimp only; omega) _)
      exact hB5
  · have hd : decide (sizeM e 1 ≤ 60) = false := by simpa using hok
    have HF : Hid (tidyE e = noEx) := by show _ = _; rw [tidyE, if_neg hok]
    go_enter Tryd.func5, Tryd.ntmps5
    go_wp2_with (go_at_call 12; refine (spec_l1Ok e hf _ _ (hv1 _ _)).mono ?_; rintro r w2 ⟨rfl, hb3⟩; rw [hd]; obtain ⟨⟨q0, q1, q2, q3, q4⟩, qf⟩ := box_second hb3; have hz := hb3.size; simp at hz; have hz1 : w.heap.size + 1 < w2.heap.size := (by omega); have hB2 : Below w.heap.size w w2 := below_next (hb2 _ _) hb3)
    refine bodyPost_ret (v := .agg #[.int .i64 0, .string ⟨#[]⟩, .string ⟨#[]⟩, .int .i64 0, .slice none 0 0]) (by simp [results, Tryd.results5, go_sem, q0, q1, q2, q3, q4]) rfl ⟨.slice none 0 0, by rw [HF.out]; rfl, by rw [HF.out]; exact .none _ _, ?_⟩
    clear q0 q1 q2 q3 q4 qf
    repeat (refine Below.setCell ?_ (by dsimp only; omega) _)
    exact hB2
end Go.Proofs.YtkjppjhmejkidaaDoor

