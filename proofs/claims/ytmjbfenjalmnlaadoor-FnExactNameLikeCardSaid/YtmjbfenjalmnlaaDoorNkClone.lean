/-
  slices.Clone of texts; the program's under; the specification's l3Binds.
-/
import Derived.Test.YtmjbfenjalmnlaaDoorNkUnder
namespace Go.Proofs.YtmjbfenjalmnlaaDoor
open Go.RowKit

theorem strInfo : (Tryd.prog.info? 9).map (fun i => (i.zero, i.size, i.bytes)) = some (some (.string ⟨#[]⟩), 1, 16) := by kernel_rfl
theorem strInfo' : ∃ i, Tryd.prog.info? 9 = some i ∧ i.zero = some (.string ⟨#[]⟩) ∧ i.size = 1 ∧ i.bytes = 16 := by
  obtain ⟨i, hi, hz⟩ := Option.map_eq_some_iff.1 strInfo
  simp only [Prod.mk.injEq] at hz
  exact ⟨i, hi, hz.1, hz.2.1, hz.2.2⟩
theorem App.cases {w : World} {B : Nat} {l : List ByteArray} {v : Value} (h : App w B l v) : (v = .slice none 0 0 ∧ l = []) ∨ ∃ ad cap, v = .slice (some ad) l.length cap ∧ ∀ j u, (l.map Value.string)[j]? = some u → w.cell? (ad.add j) = some u := by
  rcases h with h | ⟨ad, rfl, rfl⟩
  · have h0 := h
    obtain ⟨_, h2⟩ := h
    rcases h2 with ⟨rfl, hn⟩ | ⟨g, cap, cur, rfl, hg, hh, r⟩
    · exact Or.inl ⟨rfl, List.length_eq_zero_iff.1 hn⟩
    · exact Or.inr ⟨⟨g, 0, none⟩, cap, rfl, World.ownsRow.cells h0 rfl⟩
  · exact Or.inr ⟨ad, 0, rfl, fun j u hj => by simp at hj⟩
theorem Addr.add_block (ad : Addr) (j : Nat) : (ad.add j).block = ad.block := by unfold Addr.add; split <;> rfl
theorem cells_later {w w' : World} {ad : Addr} {xs : List Value} (hb : Below w.heap.size w w') (h : ∀ j u, xs[j]? = some u → w.cell? (ad.add j) = some u) : ∀ j u, xs[j]? = some u → w'.cell? (ad.add j) = some u := fun j u hj => by
  have h1 := h j u hj
  rw [← h1]
  exact hb.cell (World.block_lt_of_cell? w _ h1)
theorem strs_one (l : List ByteArray) : ∀ u ∈ l.map Value.string, u.oneCell' = true := by
  intro u hu
  obtain ⟨s, _, rfl⟩ := List.mem_map.1 hu
  rfl

set_option maxHeartbeats 400000 in
theorem slices_Clone (l : List ByteArray) (v : Value) (w : World) (hl : l.length ≤ 1000000) (hv : Env w l v) :
    Calls Tryd.prog 25 #[v] w fun r w' => ∃ v', r = .returned v' ∧ w'.ownsRow w.heap.size 9 1 v' l.length (l.map .string) ∧ Below w.heap.size w w' := by
  obtain ⟨i0, hi, hz0, hz1, hz2⟩ := strInfo'
  have heq := fun (w : World) a n c => Lib.run_eql_slice_nil (P := Tryd.prog) w 38 9 a n c 0 0 Tryd.underlying38
  rcases App.cases hv with ⟨rfl, rfl⟩ | ⟨ad, cap, rfl, hc⟩
  · go_enter Tryd.func25, Tryd.ntmps25
    go_wp2_with fail
    go_ret
    exact ⟨_, rfl, World.ownsRow_nil _ _ _ _, Below.refl _ _⟩
  · have hc' := fun o => cells_later ((Below.refl _ _).alloc (Nat.le_refl _) o) hc
    have hown : (w.alloc (.cells #[] 9)).ownsRow w.heap.size 9 1 (.slice (some ⟨w.heap.size, 0, none⟩) 0 0) 0 [] := World.ownsRow_made w #[] 0 (Nat.le_refl _) (Nat.zero_le _) rfl
    go_enter Tryd.func25, Tryd.ntmps25
    go_wp2_with (at_builtin; refine wpList_append_own _ rfl _ _ 38 rfl w.heap.size 9 i0 (.string ⟨#[]⟩) 1 16 Tryd.underlying38 hi hz0 hz1 hz2 rfl (by decide) _ 0 [] rfl hown ad l.length cap (l.map .string) rfl (by simp) (hc' _) (strs_one l) (by unfold maxLen; omega) (by omega) (by simp) ?_; intro v' w3 hown3 hgrow3 hnil3)
    go_ret
    exact ⟨_, rfl, by simpa using hown3, ((Below.refl _ _).alloc (Nat.le_refl _) _).grown hgrow3 (by simp) (fun k hk => by cases hk; exact Nat.le_refl _)⟩

theorem ownsRow_snoc {w : World} {B : Nat} {v : Value} {l : List ByteArray} {s : ByteArray} (h : w.ownsRow B 9 1 v (l.length + 1) (l.map .string ++ [.string s])) : w.ownsRow B 9 1 v (l ++ [s]).length ((l ++ [s]).map .string) := by simpa using h

theorem ownsRow_snoc2 {w : World} {B : Nat} {v : Value} {l : List ByteArray} {s t : ByteArray} (h : w.ownsRow B 9 1 v (l.length + 1 + 1) (l.map .string ++ [.string s] ++ [.string t])) : w.ownsRow B 9 1 v (l ++ [s, t]).length ((l ++ [s, t]).map .string) := by simpa using h
/-- Behind an append onto a row of the call's own, the element laid in a block ahead of it. -/
theorem under_grown {w w2 w4 : World} {o o2 : Obj} {v : Value} {n : Nat} {e : TypeId} {xs : List Value} (hb : Below (w.alloc o).heap.size (w.alloc o) w2) (hown : w2.ownsRow (w.heap.size + 1) e 1 v n xs) (hg : (w2.alloc o2).grownBy w4 v.ownBlock) : Below (w.alloc o).heap.size (w.alloc o) w4 := by
  have hz := hb.size
  refine (hb.alloc hz o2).grown hg (by simp at hz; simp; omega) (fun k hk => ?_)
  have := (hown.lt k hk).1
  simpa using this

set_option maxHeartbeats 1000000 in
theorem impl_under_own (k : Int) (a b : ByteArray) (u : Int) (s : Value) (i : Int) (l : List ByteArray) (v : Value) (w : World) (hl : l.length ≤ 100000) (hv : Env w l v) :
    Calls Tryd.prog 21 #[.agg #[.int .i64 k, .string a, .string b, .int .i64 u, s], .int .i64 i, v] w fun r w' => ∃ v', r = .returned v' ∧ App w' w.heap.size (l ++ bindsL k a b i) v' ∧ Below w.heap.size w w' := by
  obtain ⟨i0, hi, hz0, hz1, hz2⟩ := strInfo'
  have hv' := fun o => hv.keep ((Below.refl _ _).alloc (Nat.le_refl _) o)
  have HB := bindsL_eq k a b i
  have hbx : ∀ {w1 o}, Below (w.alloc o).heap.size (w.alloc o) w1 → Below w.heap.size w w1 := fun h => ((Below.refl _ _).alloc (Nat.le_refl _) _).trans (h.mono (by simp))
  cases hni : nameIn k i
  · cases hti : tailIn k i
    · rw [hni, hti] at HB
      have HB' : Hid (bindsL k a b i = []) := HB
      clear HB
      go_enter Tryd.func21, Tryd.ntmps21
      go_wp2_with (first
        | (go_at_call 25; refine (slices_Clone l _ _ (by omega) (hv' _)).mono ?_; rintro r w1 ⟨v1, rfl, hown, hb1⟩; rw [show (w.alloc _).heap.size = w.heap.size + 1 by simp] at hown; obtain ⟨hc1, hf1⟩ := bcell hb1)
        | (go_at_call 26; refine (impl_bindsNameIn _ _ _ _ _ _ _).mono ?_; rintro r w2 ⟨rfl, hb2⟩; rw [hni]; have hb12 := hb1.trans (hb2.mono hb1.size); have hown2 := ownsRow_keep hown hb2; clear hc1 hf1; obtain ⟨hc2, hf2⟩ := bcell hb12)
        | (go_at_call 27; refine (impl_bindsTailIn _ _ _ _ _ _ _).mono ?_; rintro r w3 ⟨rfl, hb3⟩; rw [hti]; have hb13 := hb12.trans (hb3.mono hb12.size); have hown3 := ownsRow_keep hown2 hb3; clear hc2 hf2))
      go_ret
      exact ⟨_, rfl, by rw [HB'.out, List.append_nil]; exact Or.inl (ownsRow_base hown3 (Nat.le_succ _)), hbx hb13⟩
    · rw [hni, hti] at HB
      have HB' : Hid (bindsL k a b i = [b]) := HB
      clear HB
      go_enter Tryd.func21, Tryd.ntmps21
      go_wp2_with (first
        | (go_at_call 25; refine (slices_Clone l _ _ (by omega) (hv' _)).mono ?_; rintro r w1 ⟨v1, rfl, hown, hb1⟩; rw [show (w.alloc _).heap.size = w.heap.size + 1 by simp] at hown; obtain ⟨hc1, hf1⟩ := bcell hb1)
        | (go_at_call 26; refine (impl_bindsNameIn _ _ _ _ _ _ _).mono ?_; rintro r w2 ⟨rfl, hb2⟩; rw [hni]; have hb12 := hb1.trans (hb2.mono hb1.size); have hown2 := ownsRow_keep hown hb2; clear hc1 hf1; obtain ⟨hc2, hf2⟩ := bcell hb12)
        | (at_builtin; refine wpList_append_own _ rfl _ _ 38 rfl (w.heap.size + 1) 9 i0 (.string ⟨#[]⟩) 1 16 Tryd.underlying38 hi hz0 hz1 hz2 rfl (by decide) _ _ _ rfl (hown3.alloc _) ⟨w3.heap.size, 0, none⟩ 1 1 [.string b] rfl rfl (cell_one_new _ _ _) (fun x hx => by simp at hx; subst hx; rfl) (by unfold maxLen; omega) (by omega) (by have hz := hb13.size; simp at hz; simp; omega) ?_; intro v5 w5 hown5 hgrow5 hnil5; have hb15 := under_grown hb13 hown3 hgrow5)
        | (go_at_call 27; refine (impl_bindsTailIn _ _ _ _ _ _ _).mono ?_; rintro r w3 ⟨rfl, hb3⟩; rw [hti]; have hb13 := hb12.trans (hb3.mono hb12.size); have hown3 := ownsRow_keep hown2 hb3; clear hc2 hf2; obtain ⟨hc3, hf3⟩ := bcell hb13))
      go_ret
      exact ⟨_, rfl, by rw [HB'.out]; exact Or.inl (ownsRow_base (ownsRow_snoc hown5) (Nat.le_succ _)), hbx hb15⟩
  · cases hti : tailIn k i
    · rw [hni, hti] at HB
      have HB' : Hid (bindsL k a b i = [a]) := HB
      clear HB
      go_enter Tryd.func21, Tryd.ntmps21
      go_wp2_with (first
        | (go_at_call 25; refine (slices_Clone l _ _ (by omega) (hv' _)).mono ?_; rintro r w1 ⟨v1, rfl, hown, hb1⟩; rw [show (w.alloc _).heap.size = w.heap.size + 1 by simp] at hown; obtain ⟨hc1, hf1⟩ := bcell hb1)
        | (go_at_call 26; refine (impl_bindsNameIn _ _ _ _ _ _ _).mono ?_; rintro r w2 ⟨rfl, hb2⟩; rw [hni]; have hb12 := hb1.trans (hb2.mono hb1.size); have hown2 := ownsRow_keep hown hb2; clear hc1 hf1; obtain ⟨hc2, hf2⟩ := bcell hb12)
        | (at_builtin; refine wpList_append_own _ rfl _ _ 38 rfl (w.heap.size + 1) 9 i0 (.string ⟨#[]⟩) 1 16 Tryd.underlying38 hi hz0 hz1 hz2 rfl (by decide) _ _ _ rfl (hown2.alloc _) ⟨w2.heap.size, 0, none⟩ 1 1 [.string a] rfl rfl (cell_one_new _ _ _) (fun x hx => by simp at hx; subst hx; rfl) (by unfold maxLen; omega) (by omega) (by have hz := hb12.size; simp at hz; simp; omega) ?_; intro v4 w4 hown4 hgrow4 hnil4; have hb14 := under_grown hb12 hown2 hgrow4; clear hc2 hf2; obtain ⟨hc4, hf4⟩ := bcell hb14)
        | (go_at_call 27; refine (impl_bindsTailIn _ _ _ _ _ _ _).mono ?_; rintro r w3 ⟨rfl, hb3⟩; rw [hti]; have hb13 := hb14.trans (hb3.mono hb14.size); have hown3 := ownsRow_keep hown4 hb3; clear hc4 hf4))
      go_ret
      exact ⟨_, rfl, by rw [HB'.out]; exact Or.inl (ownsRow_base (ownsRow_snoc hown3) (Nat.le_succ _)), hbx hb13⟩
    · rw [hni, hti] at HB
      have HB' : Hid (bindsL k a b i = [a, b]) := HB
      clear HB
      go_enter Tryd.func21, Tryd.ntmps21
      go_wp2_with (first
        | (go_at_call 25; refine (slices_Clone l _ _ (by omega) (hv' _)).mono ?_; rintro r w1 ⟨v1, rfl, hown, hb1⟩; rw [show (w.alloc _).heap.size = w.heap.size + 1 by simp] at hown; obtain ⟨hc1, hf1⟩ := bcell hb1)
        | (go_at_call 26; refine (impl_bindsNameIn _ _ _ _ _ _ _).mono ?_; rintro r w2 ⟨rfl, hb2⟩; rw [hni]; have hb12 := hb1.trans (hb2.mono hb1.size); have hown2 := ownsRow_keep hown hb2; clear hc1 hf1; obtain ⟨hc2, hf2⟩ := bcell hb12)
        | (at_builtin; first | (refine wpList_append_own _ rfl _ _ 38 rfl (w.heap.size + 1) 9 i0 (.string ⟨#[]⟩) 1 16 Tryd.underlying38 hi hz0 hz1 hz2 rfl (by decide) _ _ _ rfl (hown3.alloc _) ⟨w3.heap.size, 0, none⟩ 1 1 [.string b] rfl rfl (cell_one_new _ _ _) (fun x hx => by simp at hx; subst hx; rfl) (by unfold maxLen; omega) (by omega) (by have hz := hb13.size; simp at hz; simp; omega) ?_; intro v5 w5 hown5 hgrow5 hnil5; have hb15 := under_grown hb13 hown3 hgrow5) | (refine wpList_append_own _ rfl _ _ 38 rfl (w.heap.size + 1) 9 i0 (.string ⟨#[]⟩) 1 16 Tryd.underlying38 hi hz0 hz1 hz2 rfl (by decide) _ _ _ rfl (hown2.alloc _) ⟨w2.heap.size, 0, none⟩ 1 1 [.string a] rfl rfl (cell_one_new _ _ _) (fun x hx => by simp at hx; subst hx; rfl) (by unfold maxLen; omega) (by omega) (by have hz := hb12.size; simp at hz; simp; omega) ?_; intro v4 w4 hown4 hgrow4 hnil4; have hb14 := under_grown hb12 hown2 hgrow4; clear hc2 hf2; obtain ⟨hc4, hf4⟩ := bcell hb14))
        | (go_at_call 27; refine (impl_bindsTailIn _ _ _ _ _ _ _).mono ?_; rintro r w3 ⟨rfl, hb3⟩; rw [hti]; have hb13 := hb14.trans (hb3.mono hb14.size); have hown3 := ownsRow_keep hown4 hb3; clear hc4 hf4; obtain ⟨hc3, hf3⟩ := bcell hb13))
      go_ret
      exact ⟨_, rfl, by rw [HB'.out]; exact Or.inl (ownsRow_base (ownsRow_snoc2 hown5) (Nat.le_succ _)), hbx hb15⟩

theorem impl_under (k : Int) (a b : ByteArray) (u : Int) (s : Value) (i : Int) (l : List ByteArray) (v : Value) (w : World) (hl : l.length ≤ 100000) (hv : Env w l v) :
    Calls Tryd.prog 21 #[.agg #[.int .i64 k, .string a, .string b, .int .i64 u, s], .int .i64 i, v] w fun r w' => ∃ v', r = .returned v' ∧ Env w' (l ++ bindsL k a b i) v' ∧ Below w.heap.size w w' :=
  (impl_under_own k a b u s i l v w hl hv).mono fun _ _ ⟨v', h1, h2, h3⟩ => ⟨v', h1, App.base h2 (Nat.zero_le _), h3⟩

theorem env_lit1 (w : World) (o : Obj) (a : ByteArray) : Env ((w.alloc o).alloc (.cells #[.string a] 9)) [a] (.slice (some ⟨w.heap.size + 1, 0, none⟩) 1 1) := by
  have := World.ownsRow_lit (base := 0) (e := 9) (size := 1) (w.alloc o) #[.string a] 1 (Nat.zero_le _) (by decide) rfl
  exact Or.inl (by simpa using this)
theorem env_lit2 (w : World) (o : Obj) (a b : ByteArray) : Env ((w.alloc o).alloc (.cells #[.string a, .string b] 9)) [a, b] (.slice (some ⟨w.heap.size + 1, 0, none⟩) 2 2) := by
  have := World.ownsRow_lit (base := 0) (e := 9) (size := 1) (w.alloc o) #[.string a, .string b] 2 (Nat.zero_le _) (by decide) rfl
  exact Or.inl (by simpa using this)
theorem below_two (w : World) (o1 o2 : Obj) : Below w.heap.size w ((w.alloc o1).alloc o2) := ((Below.refl _ _).alloc (Nat.le_refl _) o1).alloc (by simp) o2

/-- How l3Binds ends. -/
def Bound (w w' : World) (l : List ByteArray) (r : Ending) : Prop := ∃ v', r = .returned v' ∧ Env w' l v' ∧ Below w.heap.size w w'

set_option maxHeartbeats 1000000 in
theorem spec_l3Binds (k : Int) (a b : ByteArray) (u : Int) (s : Value) (i : Int) (w : World) :
    Calls Tryd.prog 18 #[.agg #[.int .i64 k, .string a, .string b, .int .i64 u, s], .int .i64 i] w fun r w' => Bound w w' (bindsL k a b i) r := by
  rcases binder_cases k with rfl | rfl | rfl | rfl | h
  case inr.inr.inr.inr =>
    have HN : Hid (bindsL k a b i = []) := bindsL_none k a b i h
    obtain ⟨h4, h6, h7, h14⟩ := h
    go_enter Tryd.func18, Tryd.ntmps18
    go_wp2_with fail
    go_ret
    exact ⟨_, rfl, by rw [HN.out]; exact Env.nil _, (Below.refl _ _).alloc (Nat.le_refl _) _⟩
  · go_enter Tryd.func18, Tryd.ntmps18
    go_wp2_with fail
    go_ret
    exact ⟨_, rfl, env_lit1 _ _ _, below_two _ _ _⟩
  · cases h1 : (i == 1)
    · have HN : Hid (bindsL 6 a b i = []) := by show _ = _; simp at h1; simp [bindsL, h1]
      go_enter Tryd.func18, Tryd.ntmps18
      go_wp2_with fail
      go_ret
      exact ⟨_, rfl, by rw [HN.out]; exact Env.nil _, (Below.refl _ _).alloc (Nat.le_refl _) _⟩
    · have HN : Hid (bindsL 6 a b i = [a]) := by show _ = _; simp at h1; simp [bindsL, h1]
      go_enter Tryd.func18, Tryd.ntmps18
      go_wp2_with fail
      go_ret
      exact ⟨_, rfl, by rw [HN.out]; exact env_lit1 _ _ _, below_two _ _ _⟩
  · cases h1 : (i == 0)
    · have HN : Hid (bindsL 7 a b i = [a]) := by show _ = _; simp at h1; simp [bindsL, h1]
      go_enter Tryd.func18, Tryd.ntmps18
      go_wp2_with fail
      go_ret
      exact ⟨_, rfl, by rw [HN.out]; exact env_lit1 _ _ _, below_two _ _ _⟩
    · have HN : Hid (bindsL 7 a b i = [a, b]) := by show _ = _; simp at h1; simp [bindsL, h1]
      go_enter Tryd.func18, Tryd.ntmps18
      go_wp2_with fail
      go_ret
      exact ⟨_, rfl, by rw [HN.out]; exact env_lit2 _ _ _ _, below_two _ _ _⟩
  · cases h1 : (i == 2)
    · have HN : Hid (bindsL 14 a b i = []) := by show _ = _; simp at h1; simp [bindsL, h1]
      go_enter Tryd.func18, Tryd.ntmps18
      go_wp2_with fail
      go_ret
      exact ⟨_, rfl, by rw [HN.out]; exact Env.nil _, (Below.refl _ _).alloc (Nat.le_refl _) _⟩
    · have HN : Hid (bindsL 14 a b i = [a, b]) := by show _ = _; simp at h1; simp [bindsL, h1]
      go_enter Tryd.func18, Tryd.ntmps18
      go_wp2_with fail
      go_ret
      exact ⟨_, rfl, by rw [HN.out]; exact env_lit2 _ _ _ _, below_two _ _ _⟩
end Go.Proofs.YtmjbfenjalmnlaaDoor
