/-
  The specification's l1Kids, l1Bare.
  Where a name is bound; the program's bindsNameIn, bindsTailIn, under.
  slices.Clone of texts; the program's under; the specification's l3Binds.
  A map of how often names were found, in a captured variable: freeSet's closure.
  The specification's l1Bare.
-/
import Derived.Test.YtkjppjhmejkidaaDoorRows
import Derived.Test.YtkjppjhmejkidaaDoorNtAll0
import Derived.WalkKit
import Derived.WalkSpells
import Derived.WalkLawsBesides
import Derived.Maps.Own
import Derived.Maps.OwnOps
import Derived.Maps.Views
namespace Go.Proofs.YtkjppjhmejkidaaDoor
open Go.RowKit

/-- How many parts a kind has; -1 if there is no such kind. -/
def kidsN (k : Int) : Int :=
  if k = 1 ∨ k = 2 ∨ k = 3 ∨ k = 12 ∨ k = 18 ∨ k = 19 then 0
  else if k = 4 ∨ k = 10 ∨ k = 11 ∨ k = 16 ∨ k = 20 ∨ k = 21 then 1
  else if k = 5 ∨ k = 6 ∨ k = 7 ∨ k = 9 ∨ k = 13 ∨ k = 15 ∨ k = 17 then 2
  else if k = 8 ∨ k = 14 then 3 else -1
/-- How many names a kind has. -/
def namesN (k : Int) : Int := if k = 3 ∨ k = 4 ∨ k = 6 then 1 else if k = 7 ∨ k = 14 then 2 else 0
def leastN (k : Int) : Int := if k = 15 then 1 else 0
def mostN (k : Int) : Int := if k = 1 then 999999 else if k = 2 then 1 else if k = 15 then 6 else 0
/-- Whether there are just so many names. -/
def namesC (n : Int) (a b : ByteArray) : Bool :=
  if n = 0 then a.toList.isEmpty && b.toList.isEmpty
  else if n = 1 then nameB a && b.toList.isEmpty
  else nameB a && nameB b && !(a.toList == b.toList)
/-- Whether there are just the names and the number that a kind has. -/
def bareC (k : Int) (a b : ByteArray) (u : Int) : Bool := namesC (namesN k) a b && decide (leastN k ≤ u ∧ u ≤ mostN k)

theorem kind_cases (k : Int) : (k = 1 ∨ k = 2 ∨ k = 3 ∨ k = 4 ∨ k = 5 ∨ k = 6 ∨ k = 7 ∨ k = 8 ∨ k = 9 ∨ k = 10 ∨ k = 11 ∨ k = 12 ∨ k = 13 ∨ k = 14 ∨ k = 15 ∨ k = 16 ∨ k = 17 ∨ k = 18 ∨ k = 19 ∨ k = 20 ∨ k = 21) ∨ k < 1 ∨ 21 < k := by omega

theorem kidsN_low (k : Int) (h : k < 1) : kidsN k = -1 := by unfold kidsN; repeat (rw [if_neg (by omega)])
theorem kidsN_high (k : Int) (h : 21 < k) : kidsN k = -1 := by unfold kidsN; repeat (rw [if_neg (by omega)])

set_option maxHeartbeats 1000000 in
theorem spec_l1Kids (k : Int) (w : World) :
    Calls Tryd.prog 38 #[.int .i64 k] w fun e w' => e = .returned (.int .i64 (kidsN k)) ∧ w = w' := by
  rcases kind_cases k with (rfl | rfl | rfl | rfl | rfl | rfl | rfl | rfl | rfl | rfl | rfl | rfl | rfl | rfl | rfl | rfl | rfl | rfl | rfl | rfl | rfl) | h | h
  case inr.inl =>
    rw [kidsN_low k h]
    go_enter Tryd.func38, Tryd.ntmps38
    go_wp2_with fail
    go_ret
    exact ⟨rfl, rfl⟩
  case inr.inr =>
    rw [kidsN_high k h]
    go_enter Tryd.func38, Tryd.ntmps38
    go_wp2_with fail
    go_ret
    exact ⟨rfl, rfl⟩
  all_goals
    go_enter Tryd.func38, Tryd.ntmps38
    go_wp2_with fail
    go_ret
    exact ⟨rfl, rfl⟩
end Go.Proofs.YtkjppjhmejkidaaDoor

namespace Go.Proofs.YtkjppjhmejkidaaDoor
open Go.RowKit

/-- How many names were bound behind where a name was bound last; -1 if it is not bound. -/
def atB (l : List ByteArray) (s : ByteArray) : Int := if lastTo l s l.length = -1 then -1 else l.length - 1 - lastTo l s l.length

/-- What a kind binds in the part at a place. -/
def bindsL (k : Int) (a b : ByteArray) (i : Int) : List ByteArray :=
  if k = 4 then [a] else if k = 6 then (if i = 1 then [a] else []) else if k = 7 then (if i = 0 then [a, b] else [a]) else if k = 14 then (if i = 2 then [a, b] else []) else []
def nameIn (k i : Int) : Bool := decide (k = 4 ∨ k = 7 ∨ (k = 6 ∧ i = 1) ∨ (k = 14 ∧ i = 2))
def tailIn (k i : Int) : Bool := decide ((k = 7 ∧ i = 0) ∨ (k = 14 ∧ i = 2))

theorem bindsL_eq (k : Int) (a b : ByteArray) (i : Int) : bindsL k a b i = (if nameIn k i then [a] else []) ++ (if tailIn k i then [b] else []) := by
  unfold bindsL nameIn tailIn
  by_cases h4 : k = 4
  · subst h4; simp
  by_cases h6 : k = 6
  · subst h6; by_cases hi : i = 1 <;> simp [hi]
  by_cases h7 : k = 7
  · subst h7; by_cases hi : i = 0 <;> simp [hi]
  by_cases h14 : k = 14
  · subst h14; by_cases hi : i = 2 <;> simp [hi]
  simp [h4, h6, h7, h14]

theorem binder_cases (k : Int) : k = 4 ∨ k = 6 ∨ k = 7 ∨ k = 14 ∨ ((k == 4) = false ∧ (k == 6) = false ∧ (k == 7) = false ∧ (k == 14) = false) := by
  simp; omega
theorem nameIn_none (k i : Int) (h : (k == 4) = false ∧ (k == 6) = false ∧ (k == 7) = false ∧ (k == 14) = false) : nameIn k i = false := by
  simp at h; simp [nameIn]; omega
theorem tailIn_none (k i : Int) (h : (k == 4) = false ∧ (k == 6) = false ∧ (k == 7) = false ∧ (k == 14) = false) : tailIn k i = false := by
  simp at h; simp [tailIn]; omega
theorem bindsL_none (k : Int) (a b : ByteArray) (i : Int) (h : (k == 4) = false ∧ (k == 6) = false ∧ (k == 7) = false ∧ (k == 14) = false) : bindsL k a b i = [] := by
  rw [bindsL_eq, nameIn_none k i h, tailIn_none k i h]; rfl

set_option maxHeartbeats 1000000 in
theorem impl_bindsNameIn (k : Int) (a b : ByteArray) (u : Int) (s : Value) (i : Int) (w : World) :
    Calls Tryd.prog 45 #[.agg #[.int .i64 k, .string a, .string b, .int .i64 u, s], .int .i64 i] w fun r w' => r = .returned (.bool (nameIn k i)) ∧ Below w.heap.size w w' := by
  rcases binder_cases k with rfl | rfl | rfl | rfl | h
  case inr.inr.inr.inr =>
    have HN : Hid (nameIn k i = false) := nameIn_none k i h
    obtain ⟨h4, h6, h7, h14⟩ := h
    go_enter Tryd.func45, Tryd.ntmps45
    go_wp2_with fail
    go_ret
    exact ⟨ret_bool HN.out.symm, (Below.refl _ _).alloc (Nat.le_refl _) _⟩
  all_goals
    go_enter Tryd.func45, Tryd.ntmps45
    go_wp2_with fail
    go_ret
    exact ⟨ret_bool (by rw [Bool.eq_iff_iff]; simp [nameIn]), (Below.refl _ _).alloc (Nat.le_refl _) _⟩

set_option maxHeartbeats 1000000 in
theorem impl_bindsTailIn (k : Int) (a b : ByteArray) (u : Int) (s : Value) (i : Int) (w : World) :
    Calls Tryd.prog 46 #[.agg #[.int .i64 k, .string a, .string b, .int .i64 u, s], .int .i64 i] w fun r w' => r = .returned (.bool (tailIn k i)) ∧ Below w.heap.size w w' := by
  rcases binder_cases k with rfl | rfl | rfl | rfl | h
  case inr.inr.inr.inr =>
    have HN : Hid (tailIn k i = false) := tailIn_none k i h
    obtain ⟨h4, h6, h7, h14⟩ := h
    go_enter Tryd.func46, Tryd.ntmps46
    go_wp2_with fail
    go_ret
    exact ⟨ret_bool HN.out.symm, (Below.refl _ _).alloc (Nat.le_refl _) _⟩
  all_goals
    cases h0 : (i == 0)
    all_goals
      go_enter Tryd.func46, Tryd.ntmps46
      go_wp2_with fail
      go_ret
      exact ⟨ret_bool (by rw [Bool.eq_iff_iff]; simp at h0; simp [tailIn, h0]), (Below.refl _ _).alloc (Nat.le_refl _) _⟩
end Go.Proofs.YtkjppjhmejkidaaDoor

namespace Go.Proofs.YtkjppjhmejkidaaDoor
open Go.RowKit

theorem strInfo : (Tryd.prog.info? 9).map (fun i => (i.zero, i.size, i.bytes)) = some (some (.string ⟨#[]⟩), 1, 16) := by kernel_rfl
theorem strInfo' : ∃ i, Tryd.prog.info? 9 = some i ∧ i.zero = some (.string ⟨#[]⟩) ∧ i.size = 1 ∧ i.bytes = 16 := by
  obtain ⟨i, hi, hz⟩ := Option.map_eq_some_iff.1 strInfo
  simp only [Prod.mk.injEq] at hz
  exact ⟨i, hi, hz.1, hz.2.1, hz.2.2⟩
theorem App.cases {w : World} {B : Nat} {l : List ByteArray} {v : Value} (h : App w B l v) : (v = .slice none 0 0 ∧ l = []) ∨ ∃ ad cap, v = .slice (some ad) l.length cap ∧ ∀ j u, (l.map Value.string)[j]? = some u → w.cell? (ad.add j) = some u := by
  rcases h with h | ⟨ad, rfl, rfl⟩
  · have h0 := h
    obtain ⟨_, h2⟩ := h
    rcases h2 with ⟨rfl, hn⟩ | ⟨g, cap, cur, rfl, hg, hh, r⟩
    · exact Or.inl ⟨rfl, List.length_eq_zero_iff.1 hn⟩
    · exact Or.inr ⟨⟨g, 0, none⟩, cap, rfl, World.ownsRow.cells h0 rfl⟩
  · exact Or.inr ⟨ad, 0, rfl, fun j u hj => by simp at hj⟩
theorem Addr.add_block (ad : Addr) (j : Nat) : (ad.add j).block = ad.block := by unfold Addr.add; split <;> rfl
theorem cells_later {w w' : World} {ad : Addr} {xs : List Value} (hb : Below w.heap.size w w') (h : ∀ j u, xs[j]? = some u → w.cell? (ad.add j) = some u) : ∀ j u, xs[j]? = some u → w'.cell? (ad.add j) = some u := fun j u hj => by
  have h1 := h j u hj
  rw [← h1]
  exact hb.cell (World.block_lt_of_cell? w _ h1)
theorem strs_one (l : List ByteArray) : ∀ u ∈ l.map Value.string, u.oneCell' = true := by
  intro u hu
  obtain ⟨s, _, rfl⟩ := List.mem_map.1 hu
  rfl

set_option maxHeartbeats 400000 in
theorem slices_Clone (l : List ByteArray) (v : Value) (w : World) (hl : l.length ≤ 1000000) (hv : Env w l v) :
    Calls Tryd.prog 44 #[v] w fun r w' => ∃ v', r = .returned v' ∧ w'.ownsRow w.heap.size 9 1 v' l.length (l.map .string) ∧ Below w.heap.size w w' := by
  obtain ⟨i0, hi, hz0, hz1, hz2⟩ := strInfo'
  have heq := fun (w : World) a n c => Lib.run_eql_slice_nil (P := Tryd.prog) w 37 9 a n c 0 0 Tryd.underlying37
  rcases App.cases hv with ⟨rfl, rfl⟩ | ⟨ad, cap, rfl, hc⟩
  · go_enter Tryd.func44, Tryd.ntmps44
    go_wp2_with fail
    go_ret
    exact ⟨_, rfl, World.ownsRow_nil _ _ _ _, Below.refl _ _⟩
  · have hc' := fun o => cells_later ((Below.refl _ _).alloc (Nat.le_refl _) o) hc
    have hown : (w.alloc (.cells #[] 9)).ownsRow w.heap.size 9 1 (.slice (some ⟨w.heap.size, 0, none⟩) 0 0) 0 [] := World.ownsRow_made w #[] 0 (Nat.le_refl _) (Nat.zero_le _) rfl
    go_enter Tryd.func44, Tryd.ntmps44
    go_wp2_with (at_builtin; refine wpList_append_own _ rfl _ _ 37 rfl w.heap.size 9 i0 (.string ⟨#[]⟩) 1 16 Tryd.underlying37 hi hz0 hz1 hz2 rfl (by decide) _ 0 [] rfl hown ad l.length cap (l.map .string) rfl (by simp) (hc' _) (strs_one l) (by unfold maxLen; omega) (by omega) (by simp) ?_; intro v' w3 hown3 hgrow3 hnil3)
    go_ret
    exact ⟨_, rfl, by simpa using hown3, ((Below.refl _ _).alloc (Nat.le_refl _) _).grown hgrow3 (by simp) (fun k hk => by cases hk; exact Nat.le_refl _)⟩

theorem ownsRow_snoc {w : World} {B : Nat} {v : Value} {l : List ByteArray} {s : ByteArray} (h : w.ownsRow B 9 1 v (l.length + 1) (l.map .string ++ [.string s])) : w.ownsRow B 9 1 v (l ++ [s]).length ((l ++ [s]).map .string) := by simpa using h

theorem ownsRow_snoc2 {w : World} {B : Nat} {v : Value} {l : List ByteArray} {s t : ByteArray} (h : w.ownsRow B 9 1 v (l.length + 1 + 1) (l.map .string ++ [.string s] ++ [.string t])) : w.ownsRow B 9 1 v (l ++ [s, t]).length ((l ++ [s, t]).map .string) := by simpa using h
/-- Behind an append onto a row of the call's own, the element laid in a block ahead of it. -/
theorem under_grown {w w2 w4 : World} {o o2 : Obj} {v : Value} {n : Nat} {e : TypeId} {xs : List Value} (hb : Below (w.alloc o).heap.size (w.alloc o) w2) (hown : w2.ownsRow (w.heap.size + 1) e 1 v n xs) (hg : (w2.alloc o2).grownBy w4 v.ownBlock) : Below (w.alloc o).heap.size (w.alloc o) w4 := by
  have hz := hb.size
  refine (hb.alloc hz o2).grown hg (by simp at hz; simp; omega) (fun k hk => ?_)
  have := (hown.lt k hk).1
  simpa using this

set_option maxHeartbeats 1000000 in
theorem impl_under_own (k : Int) (a b : ByteArray) (u : Int) (s : Value) (i : Int) (l : List ByteArray) (v : Value) (w : World) (hl : l.length ≤ 100000) (hv : Env w l v) :
    Calls Tryd.prog 33 #[.agg #[.int .i64 k, .string a, .string b, .int .i64 u, s], .int .i64 i, v] w fun r w' => ∃ v', r = .returned v' ∧ App w' w.heap.size (l ++ bindsL k a b i) v' ∧ Below w.heap.size w w' := by
  obtain ⟨i0, hi, hz0, hz1, hz2⟩ := strInfo'
  have hv' := fun o => hv.keep ((Below.refl _ _).alloc (Nat.le_refl _) o)
  have HB := bindsL_eq k a b i
  have hbx : ∀ {w1 o}, Below (w.alloc o).heap.size (w.alloc o) w1 → Below w.heap.size w w1 := fun h => ((Below.refl _ _).alloc (Nat.le_refl _) _).trans (h.mono (by simp))
  cases hni : nameIn k i
  · cases hti : tailIn k i
    · rw [hni, hti] at HB
      have HB' : Hid (bindsL k a b i = []) := HB
      clear HB
      go_enter Tryd.func33, Tryd.ntmps33
      go_wp2_with (first
        | (go_at_call 44; refine (slices_Clone l _ _ (by omega) (hv' _)).mono ?_; rintro r w1 ⟨v1, rfl, hown, hb1⟩; rw [show (w.alloc _).heap.size = w.heap.size + 1 by simp] at hown; obtain ⟨hc1, hf1⟩ := bcell hb1)
        | (go_at_call 45; refine (impl_bindsNameIn _ _ _ _ _ _ _).mono ?_; rintro r w2 ⟨rfl, hb2⟩; rw [hni]; have hb12 := hb1.trans (hb2.mono hb1.size); have hown2 := ownsRow_keep hown hb2; clear hc1 hf1; obtain ⟨hc2, hf2⟩ := bcell hb12)
        | (go_at_call 46; refine (impl_bindsTailIn _ _ _ _ _ _ _).mono ?_; rintro r w3 ⟨rfl, hb3⟩; rw [hti]; have hb13 := hb12.trans (hb3.mono hb12.size); have hown3 := ownsRow_keep hown2 hb3; clear hc2 hf2))
      go_ret
      exact ⟨_, rfl, by rw [HB'.out, List.append_nil]; exact Or.inl (ownsRow_base hown3 (Nat.le_succ _)), hbx hb13⟩
    · rw [hni, hti] at HB
      have HB' : Hid (bindsL k a b i = [b]) := HB
      clear HB
      go_enter Tryd.func33, Tryd.ntmps33
      go_wp2_with (first
        | (go_at_call 44; refine (slices_Clone l _ _ (by omega) (hv' _)).mono ?_; rintro r w1 ⟨v1, rfl, hown, hb1⟩; rw [show (w.alloc _).heap.size = w.heap.size + 1 by simp] at hown; obtain ⟨hc1, hf1⟩ := bcell hb1)
        | (go_at_call 45; refine (impl_bindsNameIn _ _ _ _ _ _ _).mono ?_; rintro r w2 ⟨rfl, hb2⟩; rw [hni]; have hb12 := hb1.trans (hb2.mono hb1.size); have hown2 := ownsRow_keep hown hb2; clear hc1 hf1; obtain ⟨hc2, hf2⟩ := bcell hb12)
        | (at_builtin; refine wpList_append_own _ rfl _ _ 37 rfl (w.heap.size + 1) 9 i0 (.string ⟨#[]⟩) 1 16 Tryd.underlying37 hi hz0 hz1 hz2 rfl (by decide) _ _ _ rfl (hown3.alloc _) ⟨w3.heap.size, 0, none⟩ 1 1 [.string b] rfl rfl (cell_one_new _ _ _) (fun x hx => by simp at hx; subst hx; rfl) (by unfold maxLen; omega) (by omega) (by have hz := hb13.size; simp at hz; simp; omega) ?_; intro v5 w5 hown5 hgrow5 hnil5; have hb15 := under_grown hb13 hown3 hgrow5)
        | (go_at_call 46; refine (impl_bindsTailIn _ _ _ _ _ _ _).mono ?_; rintro r w3 ⟨rfl, hb3⟩; rw [hti]; have hb13 := hb12.trans (hb3.mono hb12.size); have hown3 := ownsRow_keep hown2 hb3; clear hc2 hf2; obtain ⟨hc3, hf3⟩ := bcell hb13))
      go_ret
      exact ⟨_, rfl, by rw [HB'.out]; exact Or.inl (ownsRow_base (ownsRow_snoc hown5) (Nat.le_succ _)), hbx hb15⟩
  · cases hti : tailIn k i
    · rw [hni, hti] at HB
      have HB' : Hid (bindsL k a b i = [a]) := HB
      clear HB
      go_enter Tryd.func33, Tryd.ntmps33
      go_wp2_with (first
        | (go_at_call 44; refine (slices_Clone l _ _ (by omega) (hv' _)).mono ?_; rintro r w1 ⟨v1, rfl, hown, hb1⟩; rw [show (w.alloc _).heap.size = w.heap.size + 1 by simp] at hown; obtain ⟨hc1, hf1⟩ := bcell hb1)
        | (go_at_call 45; refine (impl_bindsNameIn _ _ _ _ _ _ _).mono ?_; rintro r w2 ⟨rfl, hb2⟩; rw [hni]; have hb12 := hb1.trans (hb2.mono hb1.size); have hown2 := ownsRow_keep hown hb2; clear hc1 hf1; obtain ⟨hc2, hf2⟩ := bcell hb12)
        | (at_builtin; refine wpList_append_own _ rfl _ _ 37 rfl (w.heap.size + 1) 9 i0 (.string ⟨#[]⟩) 1 16 Tryd.underlying37 hi hz0 hz1 hz2 rfl (by decide) _ _ _ rfl (hown2.alloc _) ⟨w2.heap.size, 0, none⟩ 1 1 [.string a] rfl rfl (cell_one_new _ _ _) (fun x hx => by simp at hx; subst hx; rfl) (by unfold maxLen; omega) (by omega) (by have hz := hb12.size; simp at hz; simp; omega) ?_; intro v4 w4 hown4 hgrow4 hnil4; have hb14 := under_grown hb12 hown2 hgrow4; clear hc2 hf2; obtain ⟨hc4, hf4⟩ := bcell hb14)
        | (go_at_call 46; refine (impl_bindsTailIn _ _ _ _ _ _ _).mono ?_; rintro r w3 ⟨rfl, hb3⟩; rw [hti]; have hb13 := hb14.trans (hb3.mono hb14.size); have hown3 := ownsRow_keep hown4 hb3; clear hc4 hf4))
      go_ret
      exact ⟨_, rfl, by rw [HB'.out]; exact Or.inl (ownsRow_base (ownsRow_snoc hown3) (Nat.le_succ _)), hbx hb13⟩
    · rw [hni, hti] at HB
      have HB' : Hid (bindsL k a b i = [a, b]) := HB
      clear HB
      go_enter Tryd.func33, Tryd.ntmps33
      go_wp2_with (first
        | (go_at_call 44; refine (slices_Clone l _ _ (by omega) (hv' _)).mono ?_; rintro r w1 ⟨v1, rfl, hown, hb1⟩; rw [show (w.alloc _).heap.size = w.heap.size + 1 by simp] at hown; obtain ⟨hc1, hf1⟩ := bcell hb1)
        | (go_at_call 45; refine (impl_bindsNameIn _ _ _ _ _ _ _).mono ?_; rintro r w2 ⟨rfl, hb2⟩; rw [hni]; have hb12 := hb1.trans (hb2.mono hb1.size); have hown2 := ownsRow_keep hown hb2; clear hc1 hf1; obtain ⟨hc2, hf2⟩ := bcell hb12)
        | (at_builtin; first | (refine wpList_append_own _ rfl _ _ 37 rfl (w.heap.size + 1) 9 i0 (.string ⟨#[]⟩) 1 16 Tryd.underlying37 hi hz0 hz1 hz2 rfl (by decide) _ _ _ rfl (hown3.alloc _) ⟨w3.heap.size, 0, none⟩ 1 1 [.string b] rfl rfl (cell_one_new _ _ _) (fun x hx => by simp at hx; subst hx; rfl) (by unfold maxLen; omega) (by omega) (by have hz := hb13.size; simp at hz; simp; omega) ?_; intro v5 w5 hown5 hgrow5 hnil5; have hb15 := under_grown hb13 hown3 hgrow5) | (refine wpList_append_own _ rfl _ _ 37 rfl (w.heap.size + 1) 9 i0 (.string ⟨#[]⟩) 1 16 Tryd.underlying37 hi hz0 hz1 hz2 rfl (by decide) _ _ _ rfl (hown2.alloc _) ⟨w2.heap.size, 0, none⟩ 1 1 [.string a] rfl rfl (cell_one_new _ _ _) (fun x hx => by simp at hx; subst hx; rfl) (by unfold maxLen; omega) (by omega) (by have hz := hb12.size; simp at hz; simp; omega) ?_; intro v4 w4 hown4 hgrow4 hnil4; have hb14 := under_grown hb12 hown2 hgrow4; clear hc2 hf2; obtain ⟨hc4, hf4⟩ := bcell hb14))
        | (go_at_call 46; refine (impl_bindsTailIn _ _ _ _ _ _ _).mono ?_; rintro r w3 ⟨rfl, hb3⟩; rw [hti]; have hb13 := hb14.trans (hb3.mono hb14.size); have hown3 := ownsRow_keep hown4 hb3; clear hc4 hf4; obtain ⟨hc3, hf3⟩ := bcell hb13))
      go_ret
      exact ⟨_, rfl, by rw [HB'.out]; exact Or.inl (ownsRow_base (ownsRow_snoc2 hown5) (Nat.le_succ _)), hbx hb15⟩

theorem impl_under (k : Int) (a b : ByteArray) (u : Int) (s : Value) (i : Int) (l : List ByteArray) (v : Value) (w : World) (hl : l.length ≤ 100000) (hv : Env w l v) :
    Calls Tryd.prog 33 #[.agg #[.int .i64 k, .string a, .string b, .int .i64 u, s], .int .i64 i, v] w fun r w' => ∃ v', r = .returned v' ∧ Env w' (l ++ bindsL k a b i) v' ∧ Below w.heap.size w w' :=
  (impl_under_own k a b u s i l v w hl hv).mono fun _ _ ⟨v', h1, h2, h3⟩ => ⟨v', h1, App.base h2 (Nat.zero_le _), h3⟩

theorem env_lit1 (w : World) (o : Obj) (a : ByteArray) : Env ((w.alloc o).alloc (.cells #[.string a] 9)) [a] (.slice (some ⟨w.heap.size + 1, 0, none⟩) 1 1) := by
  have := World.ownsRow_lit (base := 0) (e := 9) (size := 1) (w.alloc o) #[.string a] 1 (Nat.zero_le _) (by decide) rfl
  exact Or.inl (by simpa using this)
theorem env_lit2 (w : World) (o : Obj) (a b : ByteArray) : Env ((w.alloc o).alloc (.cells #[.string a, .string b] 9)) [a, b] (.slice (some ⟨w.heap.size + 1, 0, none⟩) 2 2) := by
  have := World.ownsRow_lit (base := 0) (e := 9) (size := 1) (w.alloc o) #[.string a, .string b] 2 (Nat.zero_le _) (by decide) rfl
  exact Or.inl (by simpa using this)
theorem below_two (w : World) (o1 o2 : Obj) : Below w.heap.size w ((w.alloc o1).alloc o2) := ((Below.refl _ _).alloc (Nat.le_refl _) o1).alloc (by simp) o2

/-- How l3Binds ends. -/
def Bound (w w' : World) (l : List ByteArray) (r : Ending) : Prop := ∃ v', r = .returned v' ∧ Env w' l v' ∧ Below w.heap.size w w'

set_option maxHeartbeats 1000000 in
theorem spec_l3Binds (k : Int) (a b : ByteArray) (u : Int) (s : Value) (i : Int) (w : World) :
    Calls Tryd.prog 26 #[.agg #[.int .i64 k, .string a, .string b, .int .i64 u, s], .int .i64 i] w fun r w' => Bound w w' (bindsL k a b i) r := by
  rcases binder_cases k with rfl | rfl | rfl | rfl | h
  case inr.inr.inr.inr =>
    have HN : Hid (bindsL k a b i = []) := bindsL_none k a b i h
    obtain ⟨h4, h6, h7, h14⟩ := h
    go_enter Tryd.func26, Tryd.ntmps26
    go_wp2_with fail
    go_ret
    exact ⟨_, rfl, by rw [HN.out]; exact Env.nil _, (Below.refl _ _).alloc (Nat.le_refl _) _⟩
  · go_enter Tryd.func26, Tryd.ntmps26
    go_wp2_with fail
    go_ret
    exact ⟨_, rfl, env_lit1 _ _ _, below_two _ _ _⟩
  · cases h1 : (i == 1)
    · have HN : Hid (bindsL 6 a b i = []) := by show _ = _; simp at h1; simp [bindsL, h1]
      go_enter Tryd.func26, Tryd.ntmps26
      go_wp2_with fail
      go_ret
      exact ⟨_, rfl, by rw [HN.out]; exact Env.nil _, (Below.refl _ _).alloc (Nat.le_refl _) _⟩
    · have HN : Hid (bindsL 6 a b i = [a]) := by show _ = _; simp at h1; simp [bindsL, h1]
      go_enter Tryd.func26, Tryd.ntmps26
      go_wp2_with fail
      go_ret
      exact ⟨_, rfl, by rw [HN.out]; exact env_lit1 _ _ _, below_two _ _ _⟩
  · cases h1 : (i == 0)
    · have HN : Hid (bindsL 7 a b i = [a]) := by show _ = _; simp at h1; simp [bindsL, h1]
      go_enter Tryd.func26, Tryd.ntmps26
      go_wp2_with fail
      go_ret
      exact ⟨_, rfl, by rw [HN.out]; exact env_lit1 _ _ _, below_two _ _ _⟩
    · have HN : Hid (bindsL 7 a b i = [a, b]) := by show _ = _; simp at h1; simp [bindsL, h1]
      go_enter Tryd.func26, Tryd.ntmps26
      go_wp2_with fail
      go_ret
      exact ⟨_, rfl, by rw [HN.out]; exact env_lit2 _ _ _ _, below_two _ _ _⟩
  · cases h1 : (i == 2)
    · have HN : Hid (bindsL 14 a b i = []) := by show _ = _; simp at h1; simp [bindsL, h1]
      go_enter Tryd.func26, Tryd.ntmps26
      go_wp2_with fail
      go_ret
      exact ⟨_, rfl, by rw [HN.out]; exact Env.nil _, (Below.refl _ _).alloc (Nat.le_refl _) _⟩
    · have HN : Hid (bindsL 14 a b i = [a, b]) := by show _ = _; simp at h1; simp [bindsL, h1]
      go_enter Tryd.func26, Tryd.ntmps26
      go_wp2_with fail
      go_ret
      exact ⟨_, rfl, by rw [HN.out]; exact env_lit2 _ _ _ _, below_two _ _ _⟩
end Go.Proofs.YtkjppjhmejkidaaDoor

namespace Go.Proofs.YtkjppjhmejkidaaDoor
open Go.RowKit Go.Maps Go.WideMaps

/-- How often a text stands in a list. -/
def oft (os : List ByteArray) (s : ByteArray) : Nat := os.countP fun x => x.data.toList == s.data.toList
/-- Block Bm is a map of how often each name was found, the block behind it the variable that holds it. -/
def Holds (w : World) (Bm : Nat) (os : List ByteArray) : Prop :=
  w.heap[Bm + 1]? = some (.cells #[.map (some Bm)] 42 (0, 0)) ∧ ∃ D : DataW Unit, w.ownsMap Tryd.prog 9 (plainElem Tryd.prog 3) Bm os.length D ∧ (∀ s : ByteArray, s.size ≤ maxLen → D.atKey (.string s.data.toList) (.lit (.int .i64 0)) = .lit (.int .i64 (oft os s))) ∧ ∀ s : ByteArray, has D (.string s.data.toList) = decide (0 < oft os s)

theorem zeroI (w : World) : (zeroValue 3).run Tryd.prog w = .ok (.int .i64 0) w := by kernel_rfl

theorem Holds.kept {w w' : World} {Bm : Nat} {os : List ByteArray} (h : Holds w Bm os) (hb : Below w.heap.size w w') : Holds w' Bm os := by
  obtain ⟨h1, D, h2, h3, h4⟩ := h
  have hlt := (Array.getElem?_eq_some_iff.1 h1).1
  refine ⟨by rw [hb.block _ hlt]; exact h1, D, ?_, h3, h4⟩
  obtain ⟨es, clock, ha, hr⟩ := h2
  exact ⟨es, clock, by rw [hb.block _ (by omega)]; exact ha, hr⟩

theorem oft_snoc (os : List ByteArray) (s t : ByteArray) : oft (os ++ [s]) t = oft os t + if s.data.toList == t.data.toList then 1 else 0 := by
  simp [oft, List.countP_append, List.countP_cons]

set_option maxHeartbeats 400000 in
theorem impl_found (s : ByteArray) (w : World) (Bm : Nat) (os : List ByteArray) (h : Holds w Bm os) (hs : s.size ≤ maxLen) (hn : os.length ≤ 1000000) :
    Calls Tryd.prog 36 #[.string s, .pointer (some ⟨Bm + 1, 0, none⟩)] w fun r w' => r = .returned (.tuple #[]) ∧ Holds w' Bm (os ++ [s]) ∧ w.grownBy w' (some Bm) := by
  obtain ⟨hbox, D, hown, hat, hhas⟩ := h
  have hkey := keyOf_string_mk (P := Tryd.prog) Tryd.underlying9 (s := s) hs
  have hcell : w.cell? ⟨Bm + 1, 0, none⟩ = some (.map (some Bm)) := by rw [cell_of_row _ _ _ _ _ _ hbox]; rfl
  have hD := hat s hs
  go_enter Tryd.func36, Tryd.ntmps36
  go_wp2_with (first
    | (at_lookup; refine wpList_lookup_own_int _ rfl _ _ 42 rfl 9 3 .i64 (string_keyed Tryd.underlying9) Tryd.underlying42 Tryd.underlying3 (zeroI _) Bm os.length _ rfl hown _ _ rfl hkey ?_; intro c hc hwc)
    | (at_mapUpdate; refine wpList_mapUpdate_own _ rfl _ _ _ 42 rfl 9 3 (string_keyed Tryd.underlying9) Tryd.underlying42 _ Bm os.length _ rfl hown (by unfold maxLen; omega) _ _ _ rfl rfl hkey _ [] (plainElem_int Tryd.underlying3 (wrap64_wf _)) ?_; intro w1 hown1 hgrow1))
  go_end0
  refine ⟨rfl, ⟨?_, D.put (.string s.data.toList) (.lit (.int .i64 (wrap64 (c + 1)))), ?_, fun t ht => ?_, fun t => ?_⟩, hgrow1⟩
  · rw [hgrow1.block (Bm + 1) (Array.getElem?_eq_some_iff.1 hbox).1 (by simp)]; exact hbox
  · rw [List.length_append]; exact hown1
  · rw [hD] at hc
    obtain rfl : (oft os s : Int) = c := by simpa using hc
    have hle : oft os s ≤ os.length := List.countP_le_length
    have hmap : IsMap D := by obtain ⟨es, cl, _, _, _, hd⟩ := hown; exact ⟨_, hd⟩
    rw [oft_snoc]
    by_cases he : s.data.toList = t.data.toList
    · rw [← he, atKey_put_same hmap (by trivial), if_pos (by simp), show wrap64 ((oft os s : Int) + 1) = oft os s + 1 by unfold wrap64; omega]
      simp [oft, he]
    · rw [atKey_put_other (fun h => he (Lit.string.inj h).symm), hat t ht, if_neg (by simpa using he), Nat.add_zero]
  · have hmap : IsMap D := by obtain ⟨es, cl, _, _, _, hd⟩ := hown; exact ⟨_, hd⟩
    rw [oft_snoc]
    by_cases he : s.data.toList = t.data.toList
    · rw [← he, has_put_same hmap (by trivial), if_pos (by simp)]
      simp
    · rw [has_put_other (fun h => he (Lit.string.inj h).symm), hhas t, if_neg (by simpa using he), Nat.add_zero]
end Go.Proofs.YtkjppjhmejkidaaDoor

namespace Go.Proofs.YtkjppjhmejkidaaDoor
open Go.RowKit

/-- The world behind the specification's NameOk: at most one block more. -/
theorem below_words {w w' : World} (h : w = w' ∨ w' = w.alloc (.cells wordVals 9)) : Below w.heap.size w w' := by
  rcases h with rfl | rfl
  · exact Below.refl _ _
  · exact (Below.refl _ _).alloc (Nat.le_refl _) _

theorem bare0_a (k : Int) (a b : ByteArray) (u : Int) (hk : namesN k = 0) (h : ¬ a.toList = []) : bareC k a b u = false := by
  simp [bareC, namesC, hk, h]
theorem bare0_b (k : Int) (a b : ByteArray) (u : Int) (hk : namesN k = 0) (h : ¬ b.toList = []) : bareC k a b u = false := by
  simp [bareC, namesC, hk, h]
theorem bare0 (k : Int) (a b : ByteArray) (u : Int) (hk : namesN k = 0) (ha : a.toList = []) (hb : b.toList = []) : bareC k a b u = decide (leastN k ≤ u ∧ u ≤ mostN k) := by
  simp [bareC, namesC, hk, ha, hb]
theorem bare1_a (k : Int) (a b : ByteArray) (u : Int) (hk : namesN k = 1) (h : nameB a = false) : bareC k a b u = false := by
  simp [bareC, namesC, hk, h]
theorem bare1_b (k : Int) (a b : ByteArray) (u : Int) (hk : namesN k = 1) (h : ¬ b.toList = []) : bareC k a b u = false := by
  simp [bareC, namesC, hk, h]
theorem bare1 (k : Int) (a b : ByteArray) (u : Int) (hk : namesN k = 1) (ha : nameB a = true) (hb : b.toList = []) : bareC k a b u = decide (leastN k ≤ u ∧ u ≤ mostN k) := by
  simp [bareC, namesC, hk, ha, hb]
theorem bare2_a (k : Int) (a b : ByteArray) (u : Int) (hk : namesN k = 2) (h : nameB a = false) : bareC k a b u = false := by
  simp [bareC, namesC, hk, h]
theorem bare2_b (k : Int) (a b : ByteArray) (u : Int) (hk : namesN k = 2) (h : nameB b = false) : bareC k a b u = false := by
  simp [bareC, namesC, hk, h]
theorem bare2_c (k : Int) (a b : ByteArray) (u : Int) (hk : namesN k = 2) (h : (a.toList == b.toList) = true) : bareC k a b u = false := by
  rw [bareC, namesC, hk, h]; simp
theorem bare2 (k : Int) (a b : ByteArray) (u : Int) (hk : namesN k = 2) (ha : nameB a = true) (hb : nameB b = true) (hc : (a.toList == b.toList) = false) : bareC k a b u = decide (leastN k ≤ u ∧ u ≤ mostN k) := by
  rw [bareC, namesC, hk, ha, hb, hc]; simp

theorem in_and (a b u : Int) : (decide (a ≤ u) && decide (u ≤ b)) = decide (a ≤ u ∧ u ≤ b) := by simp
theorem in_zero (u : Int) : (u == 0) = decide (0 ≤ u ∧ u ≤ 0) := by
  rw [Bool.eq_iff_iff]; simp; omega

set_option maxHeartbeats 1000000 in
/-- Kinds with a number of their own. -/
theorem bare_num (k : Int) (hk : k = 1 ∨ k = 2 ∨ k = 15) (a b : ByteArray) (u : Int) (s : Value) (w : World) :
    Calls Tryd.prog 39 #[.agg #[.int .i64 k, .string a, .string b, .int .i64 u, s]] w fun r w' => r = .returned (.bool (bareC k a b u)) ∧ Below w.heap.size w w' := by
  rcases hk with rfl | rfl | rfl
  all_goals
    go_enter Tryd.func39, Tryd.ntmps39
    go_wp2_with (go_at_call 48; refine (spec_l1In _ _ _ _).mono ?_; rintro e w' ⟨rfl, rfl⟩)
    · go_ret
      exact ⟨ret_bool (by rw [bare0 _ a b u rfl ‹a.toList = []› ‹b.toList = []›]; exact in_and _ _ _), (Below.refl _ _).alloc (Nat.le_refl _) _⟩
    · go_ret
      exact ⟨ret_bool (bare0_b _ a b u rfl ‹¬ b.toList = []›).symm, (Below.refl _ _).alloc (Nat.le_refl _) _⟩
    · go_ret
      exact ⟨ret_bool (bare0_a _ a b u rfl ‹¬ a.toList = []›).symm, (Below.refl _ _).alloc (Nat.le_refl _) _⟩

set_option maxHeartbeats 1000000 in
/-- Kinds with neither names nor a number. -/
theorem bare_none (k : Int) (h1 : (k == 1) = false) (h2 : (k == 2) = false) (h3 : (k == 3) = false) (h4 : (k == 4) = false) (h6 : (k == 6) = false) (h7 : (k == 7) = false) (h14 : (k == 14) = false) (h15 : (k == 15) = false)
    (a b : ByteArray) (u : Int) (s : Value) (w : World) (hn : Hid (namesN k = 0 ∧ leastN k = 0 ∧ mostN k = 0)) :
    Calls Tryd.prog 39 #[.agg #[.int .i64 k, .string a, .string b, .int .i64 u, s]] w fun r w' => r = .returned (.bool (bareC k a b u)) ∧ Below w.heap.size w w' := by
  go_enter Tryd.func39, Tryd.ntmps39
  go_wp2_with fail
  · go_ret
    exact ⟨ret_bool (by rw [bare0 k a b u hn.out.1 ‹a.toList = []› ‹b.toList = []›, hn.out.2.1, hn.out.2.2]; exact in_zero u), (Below.refl _ _).alloc (Nat.le_refl _) _⟩
  · go_ret
    exact ⟨ret_bool (bare0_b k a b u hn.out.1 ‹¬ b.toList = []›).symm, (Below.refl _ _).alloc (Nat.le_refl _) _⟩
  · go_ret
    exact ⟨ret_bool (bare0_a k a b u hn.out.1 ‹¬ a.toList = []›).symm, (Below.refl _ _).alloc (Nat.le_refl _) _⟩

set_option maxHeartbeats 1000000 in
/-- Kinds with one name. -/
theorem bare_one (k : Int) (hk : k = 3 ∨ k = 4 ∨ k = 6) (a b : ByteArray) (u : Int) (s : Value) (w : World) (ha : a.size ≤ maxLen) :
    Calls Tryd.prog 39 #[.agg #[.int .i64 k, .string a, .string b, .int .i64 u, s]] w fun r w' => r = .returned (.bool (bareC k a b u)) ∧ Below w.heap.size w w' := by
  rcases hk with rfl | rfl | rfl
  all_goals
    go_enter Tryd.func39, Tryd.ntmps39
    go_wp2_with (go_at_call 49; refine (spec_l1Name _ _ ha).mono ?_; rintro e w' ⟨rfl, hw⟩; have hb := below_words hw; clear hw; obtain ⟨hc, hf⟩ := bcell hb)
    · go_ret
      exact ⟨ret_bool (by rw [bare1 _ a b u rfl ‹nameB a = true› ‹b.toList = []›]; exact in_zero u), ((Below.refl _ _).alloc (Nat.le_refl _) _).trans (hb.mono (by simp))⟩
    · go_ret
      exact ⟨ret_bool (bare1_b _ a b u rfl ‹¬ b.toList = []›).symm, ((Below.refl _ _).alloc (Nat.le_refl _) _).trans (hb.mono (by simp))⟩
    · go_ret
      exact ⟨ret_bool (bare1_a _ a b u rfl (by simpa using ‹¬ nameB a = true›)).symm, ((Below.refl _ _).alloc (Nat.le_refl _) _).trans (hb.mono (by simp))⟩

set_option maxHeartbeats 1000000 in
/-- Kinds with two names. -/
theorem bare_two (k : Int) (hk : k = 7 ∨ k = 14) (a b : ByteArray) (u : Int) (s : Value) (w : World) (ha : a.size ≤ maxLen) (hb : b.size ≤ maxLen) :
    Calls Tryd.prog 39 #[.agg #[.int .i64 k, .string a, .string b, .int .i64 u, s]] w fun r w' => r = .returned (.bool (bareC k a b u)) ∧ Below w.heap.size w w' := by
  rcases hk with rfl | rfl
  all_goals
    cases hna : nameB a
    · go_enter Tryd.func39, Tryd.ntmps39
      go_wp2_with (go_at_call 49; refine (spec_l1Name _ _ ha).mono ?_; rintro e w' ⟨rfl, hw⟩; have hb1 := below_words hw; clear hw; obtain ⟨hc, hf⟩ := bcell hb1; rw [hna])
      go_ret
      exact ⟨ret_bool (bare2_a _ a b u rfl hna).symm, ((Below.refl _ _).alloc (Nat.le_refl _) _).trans (hb1.mono (by simp))⟩
    · cases hnb : nameB b
      · go_enter Tryd.func39, Tryd.ntmps39
        go_wp2_with (go_at_call 49; refine (spec_l1Name _ _ (by first | exact ha | exact hb)).mono ?_; rintro e w2 ⟨rfl, hw⟩; first | (have hb2 := hb1.trans ((below_words hw).mono hb1.size); clear hw; obtain ⟨hc2, hf2⟩ := bcell hb2; rw [hnb]) | (have hb1 := below_words hw; clear hw; obtain ⟨hc, hf⟩ := bcell hb1; rw [hna]))
        go_ret
        exact ⟨ret_bool (bare2_b _ a b u rfl hnb).symm, ((Below.refl _ _).alloc (Nat.le_refl _) _).trans (hb2.mono (by simp))⟩
      · cases hne : (a.toList == b.toList)
        all_goals
          go_enter Tryd.func39, Tryd.ntmps39
          go_wp2_with (go_at_call 49; refine (spec_l1Name _ _ (by first | exact ha | exact hb)).mono ?_; rintro e w2 ⟨rfl, hw⟩; first | (have hb2 := hb1.trans ((below_words hw).mono hb1.size); clear hw; obtain ⟨hc2, hf2⟩ := bcell hb2; rw [hnb]) | (have hb1 := below_words hw; clear hw; obtain ⟨hc, hf⟩ := bcell hb1; rw [hna]))
          go_ret
          exact ⟨ret_bool (by first | (rw [bare2 _ a b u rfl hna hnb hne]; exact in_zero u) | exact (bare2_c _ a b u rfl hne).symm), ((Below.refl _ _).alloc (Nat.le_refl _) _).trans (hb2.mono (by simp))⟩
end Go.Proofs.YtkjppjhmejkidaaDoor

