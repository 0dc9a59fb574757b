/-
  Lists of names, ascending: the specification's l3With, at a row of the call's own.
  tidyNames, walked.
  The specification's l1Dec, below a hundred.
  The specification's l1Find: the place of a text in a list, -1 if it is not there.
  The specification's l3Next: the name of what is bound so deep.
  Lists of names, ascending: the specification's l3With, l3All, l3Less.
  The specification's l3All and l3Less.
  The free names of an expression, ascending, as data.
-/
import Derived.Test.YtkjppjhmejkidaaDoorNtAll8
import Derived.Test.YtkjppjhmejkidaaDoorNtAll1
import Derived.Test.YtkjppjhmejkidaaDoorNtAll2
namespace Go.Proofs.YtkjppjhmejkidaaDoor
open Go.RowKit

theorem wpList_append_src {ops : Array Oper} {rest : List Oper} {o : Oper} {a : Act} {w : World} {Q : Exit → Act → World → Prop} (hgd : o.guard = none) (s x : Operand)
    (ho : o.op = .call { callee := .builtin .append, args := #[s, x], argTypes := #[37, 37] })
    (B : Nat) (l m : List ByteArray) (v : Value) (hs : a.eval s = v) (hv : App w B l v) (ad : Addr) (n c : Nat) (hx : a.eval x = .slice (some ad) n c) (hn : m.length = n)
    (hc : ∀ j u, (m.map Value.string)[j]? = some u → w.cell? (ad.add j) = some u) (hl : l.length ≤ 2000000) (hm : m.length ≤ 2000000) (hB : B ≤ w.heap.size)
    (h : ∀ v' w', App w' B (l ++ m) v' → Below B w w' → wpList Tryd.prog ops Q rest (a.put o.dst v') w') : wpList Tryd.prog ops Q (o :: rest) a w := by
  subst hn
  exact wpList_append_app hgd s x ho B l m v hs hv ad c hx hc hl hm hB h

/-- Texts that stand in a block, one behind another. -/
def TextsAt (w : World) (g : Nat) (l : List ByteArray) : Prop := ∀ (j : Nat) (hj : j < l.length), w.cell? ⟨g, j, none⟩ = some (.string l[j])
theorem TextsAt.keep {w w' : World} {g : Nat} {l : List ByteArray} (h : TextsAt w g l) (hg : g < w.heap.size) (hb : Below w.heap.size w w') : TextsAt w' g l := fun j hj => by
  rw [← h j hj]; exact hb.cell hg
theorem TextsAt.take {w : World} {g : Nat} {l : List ByteArray} (h : TextsAt w g l) (k : Nat) : ∀ j u, ((l.take k).map Value.string)[j]? = some u → w.cell? ((⟨g, 0, none⟩ : Addr).add j) = some u := fun j u hj => by
  simp only [List.getElem?_map, Option.map_eq_some_iff, List.getElem?_take] at hj
  obtain ⟨x, hx, rfl⟩ := hj
  split at hx
  · obtain ⟨hj, rfl⟩ := List.getElem?_eq_some_iff.1 hx
    rw [Addr.add_mid]; simpa using h j hj
  · cases hx
theorem TextsAt.drop {w : World} {g : Nat} {l : List ByteArray} (h : TextsAt w g l) (k q : Nat) (hq : q = k) : ∀ j u, ((l.drop k).map Value.string)[j]? = some u → w.cell? ((⟨g, q, none⟩ : Addr).add j) = some u := fun j u hj => by
  subst hq
  simp only [List.getElem?_map, Option.map_eq_some_iff, List.getElem?_drop] at hj
  obtain ⟨x, hx, rfl⟩ := hj
  obtain ⟨hj, rfl⟩ := List.getElem?_eq_some_iff.1 hx
  rw [Addr.add_mid]; exact h _ hj
theorem TextsAt.none {w : World} {l : List ByteArray} (ad : Addr) (h : l = []) : ∀ j u, (l.map Value.string)[j]? = some u → w.cell? (ad.add j) = some u := fun j u hj => by subst h; simp at hj

set_option maxHeartbeats 1000000 in
theorem with_own (l : List ByteArray) (s : ByteArray) (g cap : Nat) (w : World) (hl : l.length ≤ 1000000) (hcap : l.length ≤ cap) (hcm : cap ≤ maxLen) (hg : g < w.heap.size) (HT : TextsAt w g l) (hv : Env w l (.slice (some ⟨g, 0, none⟩) l.length cap)) :
    Calls Tryd.prog 42 #[.slice (some ⟨g, 0, none⟩) l.length cap, .string s] w fun r w' => Bound w w' (withM l s) r := by
  unfold maxLen at hcm
  go_enter Tryd.func42, Tryd.ntmps42
  go_wp2_with fail
  go_loop [5] (fun i => ∃ k : Nat, k ≤ l.length ∧ i = .int .i64 k ∧ Hid (withM l s = l.take k ++ withM (l.drop k) s)) (fun i => l.length - (intOf i).toNat)
  case atStart => exact ⟨0, by omega, rfl, rfl⟩
  case round =>
    obtain ⟨k, hk, rfl, HK⟩ := hrel
    by_cases hlt : k < l.length
    · have hck := HT k hlt
      cases hle : Op.bytesLess l[k].toList s.toList
      · cases heq : (l[k].toList == s.toList)
        · have HW : Hid (withM l s = l.take k ++ [s] ++ l.drop k) := withM_new l s k hlt HK.out hle heq
          go_wp2_with (first
            | (at_builtin; refine wpList_append_src rfl (.tmp 34) (.tmp 37) rfl w.heap.size [] (l.take k) _ rfl (Or.inr ⟨_, rfl, rfl⟩) _ _ _ rfl (by simp <;> omega) ((HT.keep hg (below_al0 _ _)).take k) (by simp) (by simp <;> omega) (by simp) ?_; intro v1 w1 ha1 hb1; have hc1 : Below w.heap.size w w1 := (below_al0 _ _).trans hb1; have hz1 := hc1.size)
            | (at_builtin; refine wpList_append_src rfl (.tmp 39) (.tmp 41) rfl w.heap.size _ [s] _ rfl (App.keep ha1 (below_al0 _ _)) _ _ _ rfl rfl (one_cell_new _ _) (by simp <;> omega) (by simp) (Nat.le_trans hz1 (size_al _ _)) ?_; intro v2 w2 ha2 hb2; have hc2 : Below w.heap.size w w2 := (below_al hc1).trans hb2; have hz2 := hc2.size)
            | (at_builtin; refine wpList_append_src rfl (.tmp 43) (.tmp 46) rfl w.heap.size _ (l.drop k) _ rfl ha2 _ _ _ rfl (by simp <;> omega) ((HT.keep hg hc2).drop k _ (by omega)) (by simp <;> omega) (by simp <;> omega) hz2 ?_; intro v3 w3 ha3 hb3; have hc3 : Below w.heap.size w w3 := hc2.trans hb3))
          all_goals (go_ret; exact ⟨_, rfl, by rw [HW.out]; exact App.base ha3 (Nat.zero_le _), hc3⟩)
        · have HW : Hid (withM l s = l) := withM_eq l s k hlt HK.out hle heq
          go_wp2_with fail
          go_ret
          exact ⟨_, rfl, by rw [HW.out]; exact hv, Below.refl _ _⟩
      · have HW : Hid (withM l s = l.take (k + 1) ++ withM (l.drop (k + 1)) s) := withM_drop l s k hlt HK.out hle
        go_wp2_with fail
        go_round
        case rel => exact ⟨k + 1, by omega, by go_num, HW⟩
        case measure => simp [intOf]; omega
    · have HW : Hid (withM l s = l.take k ++ [s] ++ l.drop k) := by
        show _ = _
        rw [withM_end l s k (by omega) HK.out, List.take_of_length_le (by omega), List.drop_eq_nil_of_le (by omega), List.append_nil]
      by_cases hck : cap = k
      all_goals go_wp2_with (first
        | (at_builtin; refine wpList_append_src rfl (.tmp 34) (.tmp 37) rfl w.heap.size [] (l.take k) _ rfl (Or.inr ⟨_, rfl, rfl⟩) _ _ _ rfl (by simp <;> omega) ((HT.keep hg (below_al0 _ _)).take k) (by simp) (by simp <;> omega) (by simp) ?_; intro v1 w1 ha1 hb1; have hc1 : Below w.heap.size w w1 := (below_al0 _ _).trans hb1; have hz1 := hc1.size)
        | (at_builtin; refine wpList_append_src rfl (.tmp 39) (.tmp 41) rfl w.heap.size _ [s] _ rfl (App.keep ha1 (below_al0 _ _)) _ _ _ rfl rfl (one_cell_new _ _) (by simp <;> omega) (by simp) (Nat.le_trans hz1 (size_al _ _)) ?_; intro v2 w2 ha2 hb2; have hc2 : Below w.heap.size w w2 := (below_al hc1).trans hb2; have hz2 := hc2.size)
        | (at_builtin; refine wpList_append_src rfl (.tmp 43) (.tmp 46) rfl w.heap.size _ (l.drop k) _ rfl ha2 _ _ _ rfl (by simp <;> omega) (TextsAt.none _ (List.drop_eq_nil_of_le (by omega))) (by simp <;> omega) (by simp <;> omega) hz2 ?_; intro v3 w3 ha3 hb3; have hc3 : Below w.heap.size w w3 := hc2.trans hb3))
      all_goals (go_ret; exact ⟨_, rfl, by rw [HW.out]; exact App.base ha3 (Nat.zero_le _), hc3⟩)
end Go.Proofs.YtkjppjhmejkidaaDoor

namespace Go.Proofs.YtkjppjhmejkidaaDoor
open Go.RowKit Go.Maps Go.WideMaps

theorem App.slice {w : World} {B : Nat} {l : List ByteArray} {v : Value} (h : App w B l v) : ∃ ad cap, v = .slice ad l.length cap := by
  rcases App.cases h with ⟨rfl, rfl⟩ | ⟨ad, cap, rfl, _⟩
  · exact ⟨none, 0, rfl⟩
  · exact ⟨some ad, cap, rfl⟩
/-- How tidyNames ends. -/
def Tidied (w w' : World) (os : List ByteArray) (r : Ending) : Prop := ∃ v' k, r = .returned v' ∧ k ≤ 100 ∧ (tidyTo os k).length = 28 ∧ App w' w.heap.size (tidyTo os k) v' ∧ Below w.heap.size w w'
theorem wName_size (i : Nat) (h : i < 100) : (wName i).size ≤ 3 := by
  have h1 : (wName i).size = (wName i).data.toList.length := by show (wName i).data.size = _; rw [Array.length_toList]
  rw [h1, wName_data]
  by_cases h10 : i < 10
  · rw [Lib.decDigits_one h10]; simp
  · rw [Lib.decDigits_two h10 h]; simp

set_option maxRecDepth 100000 in
set_option maxHeartbeats 1000000 in
theorem impl_tidyNames (os : List ByteArray) (Bm : Nat) (w : World) (hn : os.length ≤ 60) (hH : Holds w Bm os) :
    Calls Tryd.prog 18 #[.map (some Bm)] w fun r w' => Tidied w w' os r := by
  go_enter Tryd.func18, Tryd.ntmps18
  go_wp2_with fail
  go_loopw [3, 4] (fun u i wr => ∃ k : Nat, k ≤ 100 ∧ i = .int .i64 k ∧ App wr w.heap.size (tidyTo os k) u ∧ (tidyTo os k).length ≤ 28 ∧ Holds wr Bm os ∧ Below w.heap.size w wr) (fun _ i _ => 100 - (intOf i).toNat)
  case atStart => exact ⟨0, by omega, rfl, Or.inr ⟨_, rfl, rfl⟩, by simp [tidyTo], hH.kept (below_al0 _ _), below_al0 _ _⟩
  case round =>
    obtain ⟨k, hk, rfl, hA, hl28, hHr, hB⟩ := hrel
    obtain ⟨ad, cap, rfl⟩ := hA.slice
    by_cases hlt : (tidyTo os k).length < 28
    · have hk88 : k < 100 := by have := tidy_hits os k; have := hits_le os k hk; omega
      have hHr0 := hHr
      obtain ⟨hbox, D, hown, hat, _⟩ := hHr
      obtain ⟨s, hs⟩ : ∃ s, s = decS k := ⟨_, rfl⟩
      obtain ⟨t, ht⟩ : ∃ t, t = wName k := ⟨_, rfl⟩
      have hst : (⟨#[119]⟩ : ByteArray) ++ s = t := by rw [hs, ht]; rfl
      have hsz : t.size ≤ maxLen := by rw [ht]; have := wName_size k hk88; unfold maxLen; omega
      have hss : s.size ≤ 3 := by
        have h1 : (wName k).size = 1 + s.size := by rw [hs]; simp [wName, ByteArray.size_append]; rfl
        have := wName_size k hk88; omega
      have hkey := keyOf_string_mk (P := Tryd.prog) Tryd.underlying9 (s := t) hsz
      have hD := hat t hsz
      have HT : Hid (tidyTo os (k + 1) = if oft os t = 0 then tidyTo os k ++ [t] else tidyTo os k) := by rw [ht]; rfl
      have hito := impl_Itoa k hk88
      rw [← hs] at hito
      clear ht hs hat
      have hz := hB.size
      by_cases h0 : oft os t = 0
      · have HT1 : Hid (tidyTo os (k + 1) = tidyTo os k ++ [t]) := by show _ = _; rw [HT.out, if_pos h0]
        have hz0 : ((oft os t : Int) == 0) = true := by simpa using h0
        go_wp2_with (first
          | (go_at_call 34; refine (hito _).mono ?_; rintro r w2 ⟨rfl, rfl⟩)
          | (at_lookup; refine wpList_lookup_own_int _ rfl _ _ 42 rfl 9 3 .i64 (string_keyed Tryd.underlying9) Tryd.underlying42 Tryd.underlying3 (zeroI _) Bm os.length _ rfl hown _ _ rfl hkey ?_; intro c hc hwc; rw [hD] at hc; obtain rfl : (oft os t : Int) = c := by simpa using hc)
          | (at_builtin; refine wpList_append_src rfl (.tmp 19) (.tmp 21) rfl w.heap.size _ [t] _ rfl (App.keep hA (below_al0 _ _)) _ _ _ rfl rfl (one_cell_new _ _) (by omega) (by simp) (Nat.le_trans hz (size_al _ _)) ?_; intro v2 w2 ha2 hb2; have hc2 : Below w.heap.size w w2 := (below_al hB).trans hb2))
        go_roundw
        case rel => exact ⟨k + 1, by omega, by go_num, by rw [HT1.out]; exact ha2, by rw [HT1.out]; simp; omega, hH.kept hc2, hc2⟩
        case measure => simp [intOf]; omega
      · have HT1 : Hid (tidyTo os (k + 1) = tidyTo os k) := by show _ = _; rw [HT.out, if_neg h0]
        have hz0 : ((oft os t : Int) == 0) = false := by simpa using h0
        go_wp2_with (first
          | (go_at_call 34; refine (hito _).mono ?_; rintro r w2 ⟨rfl, rfl⟩)
          | (at_lookup; refine wpList_lookup_own_int _ rfl _ _ 42 rfl 9 3 .i64 (string_keyed Tryd.underlying9) Tryd.underlying42 Tryd.underlying3 (zeroI _) Bm os.length _ rfl hown _ _ rfl hkey ?_; intro c hc hwc; rw [hD] at hc; obtain rfl : (oft os t : Int) = c := by simpa using hc)
          | (at_builtin; refine wpList_append_src rfl (.tmp 19) (.tmp 21) rfl w.heap.size _ [t] _ rfl (App.keep hA (below_al0 _ _)) _ _ _ rfl rfl (one_cell_new _ _) (by omega) (by simp) (Nat.le_trans hz (size_al _ _)) ?_; intro v2 w2 ha2 hb2; have hc2 : Below w.heap.size w w2 := (below_al hB).trans hb2))
        go_roundw
        case rel => exact ⟨k + 1, by omega, by go_num, by rw [HT1.out]; exact hA, by rw [HT1.out]; omega, hHr0, hB⟩
        case measure => simp [intOf]; omega
    · have hl : (tidyTo os k).length = 28 := by omega
      go_wp2_with fail
      go_ret
      exact ⟨_, k, rfl, hk, hl, hA, hB⟩
end Go.Proofs.YtkjppjhmejkidaaDoor

namespace Go.Proofs.YtkjppjhmejkidaaDoor
open Go.RowKit

theorem cell_later1 {w w2 : World} {v : Value} {t : TypeId} (hb : Below (w.alloc (.cells #[v] t)).drew.heap.size (w.alloc (.cells #[v] t)).drew w2) : w2.cell? ⟨w.heap.size, 0, none⟩ = some v := by
  rw [hb.cell (by simp [World.drew])]; exact cell_new0 _ _ _ _ rfl

theorem dec_frame1 {w w2 : World} {o : Obj} (hb : Below w.drew.heap.size w.drew w2) : Below w.heap.size w (w2.alloc o) := below_all (Below.trans (B := w.heap.size) (Below.refl _ w).drew hb)
where below_all {w w1 : World} {o : Obj} (h : Below w.heap.size w w1) : Below w.heap.size w (w1.alloc o) := h.alloc h.size o
theorem dec_frame2 {w w2 : World} {o : Obj} (hb : Below (w.alloc o).drew.heap.size (w.alloc o).drew w2) : Below w.heap.size w w2 :=
  Below.trans (((Below.refl w.heap.size w).alloc (Nat.le_refl _) o).drew) (hb.mono (by simp [World.drew]))

set_option maxRecDepth 100000 in
set_option maxHeartbeats 400000 in
theorem spec_l1Dec (n : Nat) (hn : n < 100) (w : World) : Calls Tryd.prog 40 #[.int .i64 n] w fun r w' => r = .returned (.string (decS n)) ∧ Below w.heap.size w w' := by
  by_cases h10 : n < 10
  · exact dec_low n h10 w
  · obtain ⟨m, hm⟩ : ∃ m, m = n / 10 := ⟨_, rfl⟩
    obtain ⟨q, hq⟩ : ∃ q, q = n % 10 := ⟨_, rfl⟩
    obtain ⟨c, hc⟩ : ∃ c : UInt8, c = UInt8.ofNat (48 + q) := ⟨_, rfl⟩
    have HD : Hid (decS n = decS m ++ ⟨#[c]⟩) := by
      show _ = _
      rw [hm, decS, decS, Lib.decDigits_two h10 hn, Lib.decDigits_one (by omega), hc, hq]
      rfl
    have hq9 : q < 10 := by omega
    have hm9 : m < 10 := by omega
    have hge : 10 ≤ n := by omega
    have hwr : IntKind.i64.wrap ((n : Int) / 10) = (m : Int) := by
      rw [show (n : Int) / 10 = (m : Int) by omega, IntKind.wrap_i64]; omega
    have hwm : IntKind.i64.wrap ((n : Int) % 10) = (q : Int) := by
      rw [show (n : Int) % 10 = (q : Int) by omega, IntKind.wrap_i64]; omega
    have hwq : (n : Int) % 10 = (q : Int) := by omega
    have hzc : (48 : Int) + q = (c.toNat : Int) := by rw [hc]; simp; omega
    have hZ : IntKind.u8.wrap (IntKind.i64.wrap (48 + (n : Int).tmod 10)) = (c.toNat : Int) := by
      rw [Int.tmod_eq_emod_of_nonneg (by omega), hwq, IntKind.wrap_i64, show ((48 : Int) + q + 9223372036854775808) % 18446744073709551616 - 9223372036854775808 = 48 + q by omega, hzc]
      simp [IntKind.wrap, IntKind.bits, IntKind.signed]
      have := c.toNat_lt; omega
    have hcv : ∀ W : World, _ := fun W => conv_one W c (c.toNat : Int) W.heap.size rfl rfl
    have hcv3 : ∀ W : World, _ := fun W => run_conv (W.alloc (.cells #[.int .u8 (c.toNat : Int)] 5)).drew c (c.toNat : Int) W.heap.size rfl (cell_new0 W (.int .u8 (c.toNat : Int)) 5 W.heap.size rfl)
    have hlow : ∀ (z : Int), z = (m : Int) → ∀ w : World, Calls Tryd.prog 40 #[.int .i64 z] w fun r w' => r = .returned (.string (decS m)) ∧ Below w.heap.size w w' := fun z hz w => by subst hz; exact dec_low m hm9 w
    have hds : (decS m).size = 1 := by rw [decS, Lib.decDigits_one hm9]; rfl
    clear hm hq hc h10
    go_enter Tryd.func40, Tryd.ntmps40
    go_wp2_with fail
    go_region_with (go_at_call 40; refine (hlow _ (by first | rfl | exact hwr) _).mono ?_; rintro r w2 ⟨rfl, hb2⟩; first | (have hcv2 := run_conv w2 c (c.toNat : Int) _ rfl (cell_later1 hb2)) | (have hcv2 := run_conv w2 c (c.toNat : Int) _ rfl (cell_later0 hb2)) | skip)
    all_goals
      go_wp2_with fail
      go_ret
      exact ⟨by rw [HD.out]; rfl, by first | exact dec_frame2 hb2 | exact dec_frame1 hb2⟩
end Go.Proofs.YtkjppjhmejkidaaDoor

namespace Go.Proofs.YtkjppjhmejkidaaDoor
open Go.RowKit

/-- The place of a text from place k on; -1 if it is not there. -/
def findAt (s : ByteArray) : List ByteArray → Nat → Int
  | [], _ => -1
  | x :: xs, k => if x.toList == s.toList then k else findAt s xs (k + 1)
def findM (l : List ByteArray) (s : ByteArray) : Int := findAt s l 0
theorem findAt_yes (l : List ByteArray) (s : ByteArray) (k : Nat) (h : k < l.length) (he : (l[k].toList == s.toList) = true) : findAt s (l.drop k) k = k := by
  rw [List.drop_eq_getElem_cons h, findAt, if_pos he]
theorem findAt_no (l : List ByteArray) (s : ByteArray) (k : Nat) (h : k < l.length) (he : (l[k].toList == s.toList) = false) : findAt s (l.drop k) k = findAt s (l.drop (k + 1)) (k + 1) := by
  rw [List.drop_eq_getElem_cons h, findAt, if_neg (by simp [he])]
theorem findAt_end (l : List ByteArray) (s : ByteArray) (k : Nat) (h : l.length ≤ k) : findAt s (l.drop k) k = -1 := by
  rw [List.drop_eq_nil_of_le h, findAt]
theorem findAt_neg (s : ByteArray) : ∀ (l : List ByteArray) (k : Nat), findAt s l k < 0 ↔ ∀ x ∈ l, (x.toList == s.toList) = false
  | [], k => by simp [findAt]
  | x :: xs, k => by
    rw [findAt]
    cases he : (x.toList == s.toList)
    · rw [if_neg (by simp), findAt_neg s xs (k + 1)]
      simp only [List.mem_cons, forall_eq_or_imp, he, true_and]
    · rw [if_pos rfl]
      simp only [List.mem_cons, forall_eq_or_imp, he, Bool.true_eq_false, false_and, iff_false]
      omega

set_option maxHeartbeats 400000 in
theorem spec_l1FindEnv (l : List ByteArray) (s : ByteArray) (v : Value) (w : World) (hl : l.length ≤ 1000000) (hv : Env w l v) :
    Calls Tryd.prog 41 #[v, .string s] w fun r w' => r = .returned (.int .i64 (findM l s)) ∧ w = w' := by
  obtain ⟨a, cap, rfl, hcell⟩ := hv.open
  go_enter Tryd.func41, Tryd.ntmps41
  go_wp2_with fail
  go_loop [5] (fun i => ∃ k : Nat, k ≤ l.length ∧ i = .int .i64 k ∧ Hid (findM l s = findAt s (l.drop k) k)) (fun i => l.length - (intOf i).toNat)
  case atStart => exact ⟨0, by omega, rfl, rfl⟩
  case round =>
    obtain ⟨k, hk, rfl, HK⟩ := hrel
    by_cases hlt : k < l.length
    · obtain ⟨g, rfl, hck⟩ := hcell k hlt
      cases heq : (l[k].toList == s.toList)
      · have HW : Hid (findM l s = findAt s (l.drop (k + 1)) (k + 1)) := by show _ = _; rw [HK.out, findAt_no l s k hlt heq]
        go_wp2_with fail
        go_round
        case rel => exact ⟨k + 1, by omega, by go_num, HW⟩
        case measure => simp [intOf]; omega
      · have HW : Hid (findM l s = k) := by show _ = _; rw [HK.out, findAt_yes l s k hlt heq]
        go_wp2_with fail
        go_ret
        exact ⟨ret_int HW.out.symm, rfl⟩
    · have HW : Hid (findM l s = -1) := by show _ = _; rw [HK.out, findAt_end l s k (by omega)]
      go_wp2_with fail
      go_ret
      exact ⟨ret_int HW.out.symm, rfl⟩
end Go.Proofs.YtkjppjhmejkidaaDoor

namespace Go.Proofs.YtkjppjhmejkidaaDoor
open Go.RowKit

theorem find_oft (l : List ByteArray) (s : ByteArray) : findM l s < 0 ↔ oft l s = 0 := by
  rw [findM, findAt_neg, oft, List.countP_eq_zero]
  constructor
  · intro h x hx
    have := h x hx
    rw [ByteArray.toList_eq, ByteArray.toList_eq] at this
    simpa using this
  · intro h x hx
    have := h x hx
    rw [ByteArray.toList_eq, ByteArray.toList_eq]
    simpa using this
/-- How l3Next ends. -/
def Nexted (w w' : World) (fl : List ByteArray) (deep : Nat) (r : Ending) : Prop := ∃ k, k < 100 ∧ r = .returned (.string (wName k)) ∧ oft fl (wName k) = 0 ∧ (tidyTo fl k).length = deep ∧ Below w.heap.size w w'

set_option maxRecDepth 100000 in
set_option maxHeartbeats 1000000 in
theorem spec_l3Next (fl : List ByteArray) (v : Value) (deep : Nat) (w : World) (hn : fl.length ≤ 60) (hd : deep ≤ 30) (hv : Env w fl v) :
    Calls Tryd.prog 25 #[v, .int .i64 deep] w fun r w' => Nexted w w' fl deep r := by
  go_enter Tryd.func25, Tryd.ntmps25
  go_wp2_with fail
  go_loopw [1, 5] (fun u i wr => ∃ k e : Nat, k ≤ 100 ∧ i = .int .i64 k ∧ u = .int .i64 e ∧ e + (tidyTo fl k).length = deep ∧ Below w.heap.size w wr) (fun _ i _ => 100 - (intOf i).toNat)
  case atStart => exact ⟨0, deep, by omega, rfl, rfl, by simp [tidyTo], Below.refl _ _⟩
  case round =>
    obtain ⟨k, e, hk, rfl, rfl, he, hB⟩ := hrel
    have hk88 : k < 100 := by have := tidy_hits fl k; have := hits_le fl k hk; omega
    obtain ⟨s, hs⟩ : ∃ s, s = decS k := ⟨_, rfl⟩
    obtain ⟨t, ht⟩ : ∃ t, t = wName k := ⟨_, rfl⟩
    have hst : (⟨#[119]⟩ : ByteArray) ++ s = t := by rw [hs, ht]; rfl
    have hss : s.size ≤ 3 := by
      have h1 : (wName k).size = 1 + s.size := by rw [hs]; simp [wName, ByteArray.size_append]; rfl
      have := wName_size k hk88; omega
    have HT : Hid (tidyTo fl (k + 1) = if oft fl t = 0 then tidyTo fl k ++ [t] else tidyTo fl k) := by rw [ht]; rfl
    have hdec := spec_l1Dec k hk88
    rw [← hs] at hdec
    have hfo := find_oft fl t
    have hev := fun w' (h : Below wr.heap.size wr w') => spec_l1FindEnv fl t v w' (by omega) (hv.keep (below_next hB h))
    have HK : Hid (t = wName k) := ht
    clear hs ht
    by_cases h0 : findM fl t < 0
    · have HT1 : Hid (tidyTo fl (k + 1) = tidyTo fl k ++ [t]) := by show _ = _; rw [HT.out, if_pos (hfo.1 h0)]
      have HO : Hid (oft fl t = 0) := hfo.1 h0
      clear hfo
      by_cases hz : e = 0
      · go_wp2_with (first
          | (go_at_call 40; refine (hdec _).mono ?_; rintro r w2 ⟨rfl, hb2⟩)
          | (go_at_call 41; refine (hev _ hb2).mono ?_; rintro r w3 ⟨rfl, rfl⟩))
        go_ret
        exact ⟨k, hk88, by rw [← HK.out]; rfl, by rw [← HK.out]; exact HO.out, by omega, below_next hB hb2⟩
      · go_wp2_with (first
          | (go_at_call 40; refine (hdec _).mono ?_; rintro r w2 ⟨rfl, hb2⟩)
          | (go_at_call 41; refine (hev _ hb2).mono ?_; rintro r w3 ⟨rfl, rfl⟩))
        go_roundw
        case rel => exact ⟨k + 1, e - 1, by omega, by go_num, by go_num, by rw [HT1.out]; simp; omega, below_next hB hb2⟩
        case measure => simp [intOf]; omega
    · have HT1 : Hid (tidyTo fl (k + 1) = tidyTo fl k) := by show _ = _; rw [HT.out, if_neg (fun h => h0 (hfo.2 h))]
      clear hfo
      go_wp2_with (first
        | (go_at_call 40; refine (hdec _).mono ?_; rintro r w2 ⟨rfl, hb2⟩)
        | (go_at_call 41; refine (hev _ hb2).mono ?_; rintro r w3 ⟨rfl, rfl⟩))
      go_roundw
      case rel => exact ⟨k + 1, e, by omega, by go_num, rfl, by rw [HT1.out]; omega, below_next hB hb2⟩
      case measure => simp [intOf]; omega
end Go.Proofs.YtkjppjhmejkidaaDoor

namespace Go.Proofs.YtkjppjhmejkidaaDoor
open Go.RowKit

theorem Env.texts {w : World} {l : List ByteArray} {v : Value} (h : Env w l v) : (l = [] ∧ (v = .slice none 0 0 ∨ ∃ ad, v = .slice (some ad) 0 0)) ∨ ∃ g cap, v = .slice (some ⟨g, 0, none⟩) l.length cap ∧ g < w.heap.size ∧ l.length ≤ cap ∧ cap ≤ maxLen ∧ TextsAt w g l := by
  rcases h with h | ⟨ad, rfl, rfl⟩
  · have h0 := h
    obtain ⟨h1, h2⟩ := h
    rcases h2 with ⟨rfl, hn⟩ | ⟨g, cap, cur, rfl, hg, hh, hn, hm, r⟩
    · exact Or.inl ⟨List.length_eq_zero_iff.1 hn, Or.inl rfl⟩
    · refine Or.inr ⟨g, cap, rfl, (Array.getElem?_eq_some_iff.1 hh).1, by omega, hm, fun j hj => ?_⟩
      have := World.ownsRow.cellAt h0 j (by omega)
      rw [this]; simp [hj]
  · exact Or.inl ⟨rfl, Or.inr ⟨ad, rfl⟩⟩

theorem one_cell_at (w : World) (s : ByteArray) (n : Nat) (hn : n = w.heap.size) : ∀ j u, ([s].map Value.string)[j]? = some u → (w.alloc (.cells #[.string s] 9)).cell? ((⟨n, 0, none⟩ : Addr).add j) = some u := by subst hn; exact one_cell_new w s

set_option maxHeartbeats 1000000 in
theorem with_nil (s : ByteArray) (w : World) :
    Calls Tryd.prog 42 #[.slice none 0 0, .string s] w fun r w' => Bound w w' [s] r := by
  go_enter Tryd.func42, Tryd.ntmps42
  go_wp2_with fail
  go_loop [5] (fun i => i = .int .i64 0) (fun _ => 0)
  case atStart => rfl
  case round =>
    subst hrel
    go_wp2_with (first
      | (at_builtin; refine wpList_append_nil rfl (.tmp 34) (.tmp 37) rfl _ rfl (Or.inl ⟨_, _, _, rfl, Nat.le_refl _⟩) rfl ?_)
      | (at_builtin; refine wpList_append_src rfl (.tmp 39) (.tmp 41) rfl w.heap.size [] [s] _ rfl (Or.inr ⟨_, rfl, rfl⟩) _ _ _ rfl rfl (one_cell_at _ _ _ (by simp)) (by simp) (by simp) (Nat.le_trans (size_al _ _) (size_al _ _)) ?_; intro v2 w2 ha2 hb2; have hc2 : Below w.heap.size w w2 := (below_al (below_al0 _ _)).trans hb2)
      | (at_builtin; refine wpList_append_nil rfl (.tmp 43) (.tmp 46) rfl _ rfl (App.room ha2) rfl ?_))
    go_ret
    exact ⟨_, rfl, App.base ha2 (Nat.zero_le _), hc2⟩

set_option maxHeartbeats 1000000 in
theorem with_empty (s : ByteArray) (ad : Addr) (w : World) :
    Calls Tryd.prog 42 #[.slice (some ad) 0 0, .string s] w fun r w' => Bound w w' [s] r := by
  go_enter Tryd.func42, Tryd.ntmps42
  go_wp2_with fail
  go_loop [5] (fun i => i = .int .i64 0) (fun _ => 0)
  case atStart => rfl
  case round =>
    subst hrel
    go_wp2_with (first
      | (at_builtin; refine wpList_append_src rfl (.tmp 34) (.tmp 37) rfl w.heap.size [] [] _ rfl (Or.inr ⟨_, rfl, rfl⟩) _ _ _ rfl rfl (TextsAt.none _ rfl) (by simp) (by simp) (by simp <;> omega) ?_; intro v1 w1 ha1 hb1; have hc1 : Below w.heap.size w w1 := (below_al0 _ _).trans hb1; have hz1 := hc1.size)
      | (at_builtin; refine wpList_append_src rfl (.tmp 39) (.tmp 41) rfl w.heap.size [] [s] _ rfl (App.keep ha1 (below_al0 _ _)) _ _ _ rfl rfl (one_cell_new _ _) (by simp) (by simp) (Nat.le_trans hz1 (size_al _ _)) ?_; intro v2 w2 ha2 hb2; have hc2 : Below w.heap.size w w2 := (below_al hc1).trans hb2; have hz2 := hc2.size)
      | (at_builtin; refine wpList_append_src rfl (.tmp 43) (.tmp 46) rfl w.heap.size [s] [] _ rfl ha2 _ _ _ rfl rfl (TextsAt.none _ rfl) (by simp) (by simp) hz2 ?_; intro v3 w3 ha3 hb3; have hc3 : Below w.heap.size w w3 := hc2.trans hb3))
    go_ret
    exact ⟨_, rfl, App.base ha3 (Nat.zero_le _), hc3⟩

theorem spec_l3With (l : List ByteArray) (s : ByteArray) (v : Value) (w : World) (hl : l.length ≤ 1000000) (hv : Env w l v) :
    Calls Tryd.prog 42 #[v, .string s] w fun r w' => Bound w w' (withM l s) r := by
  rcases hv.texts with ⟨rfl, rfl | ⟨ad, rfl⟩⟩ | ⟨g, cap, rfl, hg, hn, hm, HT⟩
  · exact with_nil s w
  · exact with_empty s ad w
  · exact with_own l s g cap w hl hn hm hg HT hv

/-- A list of names with those of another. -/
def allM (a b : List ByteArray) : List ByteArray := b.foldl withM a
theorem allM_take (a b : List ByteArray) (k : Nat) (hk : k < b.length) : allM a (b.take (k + 1)) = withM (allM a (b.take k)) b[k] := by
  rw [allM, List.take_succ_eq_append_getElem hk, List.foldl_append]; rfl
theorem allM_length (a b : List ByteArray) : (allM a b).length ≤ a.length + b.length := by
  induction b generalizing a with
  | nil => simp [allM]
  | cons x b ih =>
    have h := ih (withM a x)
    have := withM_length a x
    simp only [allM, List.foldl_cons, List.length_cons] at h ⊢
    omega

/-- A list of names without one. -/
def lessM (l : List ByteArray) (s : ByteArray) : List ByteArray := l.filter fun x => !(x.toList == s.toList)
theorem lessM_yes (l : List ByteArray) (s : ByteArray) (k : Nat) (hk : k < l.length) (h : (l[k].toList == s.toList) = true) : lessM (l.take (k + 1)) s = lessM (l.take k) s := by
  rw [lessM, List.take_succ_eq_append_getElem hk, List.filter_append]; simp [h, lessM]
theorem lessM_no (l : List ByteArray) (s : ByteArray) (k : Nat) (hk : k < l.length) (h : (l[k].toList == s.toList) = false) : lessM (l.take (k + 1)) s = lessM (l.take k) s ++ [l[k]] := by
  rw [lessM, List.take_succ_eq_append_getElem hk, List.filter_append]; simp [h, lessM]
theorem lessM_length (l : List ByteArray) (s : ByteArray) : (lessM l s).length ≤ l.length := List.length_filter_le _ _
end Go.Proofs.YtkjppjhmejkidaaDoor

namespace Go.Proofs.YtkjppjhmejkidaaDoor
open Go.RowKit
set_option maxHeartbeats 1000000 in
theorem spec_l3All (a b : List ByteArray) (v y : Value) (w : World) (hl : a.length + b.length ≤ 1000000) (hv : Env w a v) (hy : Env w b y) :
    Calls Tryd.prog 28 #[v, y] w fun r w' => Bound w w' (allM a b) r := by
  have hy0 := hy
  obtain ⟨ad, cap, rfl, hcell⟩ := hy.open
  go_enter Tryd.func28, Tryd.ntmps28
  go_wp2_with fail
  go_loopw [0, 5] (fun u i wr => ∃ k : Nat, k ≤ b.length ∧ i = .int .i64 k ∧ Env wr (allM a (b.take k)) u ∧ Below w.heap.size w wr) (fun _ i _ => b.length - (intOf i).toNat)
  case atStart => exact ⟨0, by omega, rfl, hv, Below.refl _ _⟩
  case round =>
    obtain ⟨k, hk, rfl, hE, hB⟩ := hrel
    by_cases hlt : k < b.length
    · obtain ⟨g, rfl, hck⟩ := hcell k hlt
      have hck' : wr.cell? ⟨g, k, none⟩ = some (.string b[k]) := by rw [← hck]; exact hB.cell (World.block_lt_of_cell? w _ hck)
      clear hck hcell
      have hlen := allM_length a (b.take k)
      have hlen2 : (allM a (b.take k)).length ≤ 1000000 := by simp at hlen; omega
      have HS : Hid (allM a (b.take (k + 1)) = withM (allM a (b.take k)) b[k]) := allM_take a b k hlt
      clear hlen
      go_wp2_with (go_at_call 42; refine (spec_l3With _ _ _ _ hlen2 hE).mono ?_; rintro r w2 ⟨v2, rfl, he2, hb2⟩)
      go_roundw
      case rel => exact ⟨k + 1, by omega, by go_num, by rw [HS.out]; exact he2, below_next hB hb2⟩
      case measure => simp [intOf]; omega
    · have HS : Hid (allM a (b.take k) = allM a b) := by show _ = _; rw [List.take_of_length_le (by omega)]
      go_wp2_with fail
      go_ret
      exact ⟨_, rfl, by rw [← HS.out]; exact hE, hB⟩

set_option maxHeartbeats 1000000 in
theorem spec_l3Less (l : List ByteArray) (s : ByteArray) (v : Value) (w : World) (hl : l.length ≤ 1000000) (hv : Env w l v) :
    Calls Tryd.prog 27 #[v, .string s] w fun r w' => Bound w w' (lessM l s) r := by
  obtain ⟨ad, cap, rfl, hcell⟩ := hv.open
  go_enter Tryd.func27, Tryd.ntmps27
  go_wp2_with fail
  go_loopw [5, 6] (fun u i wr => ∃ k : Nat, k ≤ l.length ∧ i = .int .i64 k ∧ App wr w.heap.size (lessM (l.take k) s) u ∧ Below w.heap.size w wr) (fun _ i _ => l.length - (intOf i).toNat)
  case atStart => exact ⟨0, by omega, rfl, Or.inr ⟨_, rfl, rfl⟩, below_al0 _ _⟩
  case round =>
    obtain ⟨k, hk, rfl, hE, hB⟩ := hrel
    by_cases hlt : k < l.length
    · obtain ⟨g, rfl, hck⟩ := hcell k hlt
      have hck' : wr.cell? ⟨g, k, none⟩ = some (.string l[k]) := by rw [← hck]; exact hB.cell (World.block_lt_of_cell? w _ hck)
      clear hck hcell
      have hlen := lessM_length (l.take k) s
      have hlen2 : (lessM (l.take k) s).length ≤ 2000000 := by simp at hlen; omega
      have hz := hB.size
      clear hlen
      cases heq : (l[k].toList == s.toList)
      · have HS : Hid (lessM (l.take (k + 1)) s = lessM (l.take k) s ++ [l[k]]) := lessM_no l s k hlt heq
        go_wp2_with (at_builtin; refine wpList_append_src rfl (.tmp 20) (.tmp 25) rfl w.heap.size _ [l[k]] _ rfl (App.keep hE (below_al0 _ _)) _ _ _ rfl rfl (one_cell_new _ _) hlen2 (by simp) (Nat.le_trans hz (size_al _ _)) ?_; intro v2 w2 ha2 hb2; have hc2 : Below w.heap.size w w2 := (below_al hB).trans hb2)
        go_roundw
        case rel => exact ⟨k + 1, by omega, by go_num, by rw [HS.out]; exact ha2, hc2⟩
        case measure => simp [intOf]; omega
      · have HS : Hid (lessM (l.take (k + 1)) s = lessM (l.take k) s) := lessM_yes l s k hlt heq
        go_wp2_with fail
        go_roundw
        case rel => exact ⟨k + 1, by omega, by go_num, by rw [HS.out]; exact hE, hB⟩
        case measure => simp [intOf]; omega
    · have HS : Hid (lessM (l.take k) s = lessM l s) := by show _ = _; rw [List.take_of_length_le (by omega)]
      go_wp2_with fail
      go_ret
      exact ⟨_, rfl, by rw [← HS.out]; exact App.base hE (Nat.zero_le _), hB⟩
end Go.Proofs.YtkjppjhmejkidaaDoor

namespace Go.Proofs.YtkjppjhmejkidaaDoor
open Go.RowKit

/-- A list of names without those of another. -/
def lessAll (l bs : List ByteArray) : List ByteArray := bs.foldl lessM l
theorem lessAll_take (l bs : List ByteArray) (k : Nat) (hk : k < bs.length) : lessAll l (bs.take (k + 1)) = lessM (lessAll l (bs.take k)) bs[k] := by
  rw [lessAll, List.take_succ_eq_append_getElem hk, List.foldl_append]; rfl
theorem lessAll_length (l bs : List ByteArray) : (lessAll l bs).length ≤ l.length := by
  induction bs generalizing l with
  | nil => simp [lessAll]
  | cons x bs ih => exact Nat.le_trans (ih (lessM l x)) (lessM_length l x)

mutual
/-- The free names of an expression. -/
def freeM : Ex → List ByteArray
  | .mk k n t _ ks => if k = 3 then [n] else freeAll ks 0 (bindsL k n t) []
def freeAll : List Ex → Int → (Int → List ByteArray) → List ByteArray → List ByteArray
  | [], _, _, out => out
  | e :: es, i, bs, out => freeAll es (i + 1) bs (allM out (lessAll (freeM e) (bs i)))
end
theorem freeM_eq (e : Ex) : freeM e = if e.kind = 3 then [e.name] else freeAll e.kids 0 e.bindsAt [] := by
  cases e; rw [freeM]; rfl
theorem freeAll_drop (es : List Ex) (i : Int) (bs : Int → List ByteArray) (out : List ByteArray) (k : Nat) (h : k < es.length) : freeAll (es.drop k) i bs out = freeAll (es.drop (k + 1)) (i + 1) bs (allM out (lessAll (freeM es[k]) (bs i))) := by
  rw [List.drop_eq_getElem_cons h, freeAll]

theorem freeAll_length (d : Int) (bs : Int → List ByteArray) : ∀ (es : List Ex) (i : Int) (out : List ByteArray) (m : Int), (∀ e ∈ es, sizeM e d ≤ 60 → ((freeM e).length : Int) ≤ sizeM e d) → (out.length : Int) ≤ m → sizeAll es d m ≤ 60 → ((freeAll es i bs out).length : Int) ≤ sizeAll es d m
  | [], i, out, m, _, h1, _ => by rw [freeAll, sizeAll]; exact h1
  | e :: es, i, out, m, h, h1, h2 => by
    rw [sizeAll] at h2 ⊢
    rw [freeAll]
    split at h2
    · omega
    · rename_i hs
      rw [if_neg hs]
      have hb := (sizeM_bd e d).1
      have he := h e (by simp) (by omega)
      refine freeAll_length d bs es _ _ _ (fun x hx => h x (by simp [hx])) ?_ h2
      have h3 := allM_length out (lessAll (freeM e) (bs i))
      have h4 := lessAll_length (freeM e) (bs i)
      omega
theorem freeM_length (e : Ex) : ∀ d, sizeM e d ≤ 60 → ((freeM e).length : Int) ≤ sizeM e d := by
  induction e using Ex.ind with
  | h e ih =>
    intro d hd
    have hb := (sizeM_bd e d).1
    rw [freeM_eq]
    by_cases h3 : e.kind = 3
    · rw [if_pos h3]; simpa using hb
    · rw [if_neg h3]
      rw [sizeM_eq] at hd ⊢
      split at hd
      · omega
      · rename_i hs
        rw [if_neg hs]
        exact freeAll_length (d + 1) e.bindsAt e.kids 0 [] 1 (fun x hx => ih x hx (d + 1)) (by simp) hd
end Go.Proofs.YtkjppjhmejkidaaDoor

