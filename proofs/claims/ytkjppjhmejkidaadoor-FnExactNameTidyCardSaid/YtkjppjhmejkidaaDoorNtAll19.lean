/-
  The law FnExactNameTidy: it answers true, whatever the expression.
  What can be read as an expression is one, and lies in memory.
-/
import Derived.Test.YtkjppjhmejkidaaDoorNtAll17
import Derived.Test.YtkjppjhmejkidaaDoorNtAll18
import Derived.Deep.Cut
import Derived.Test.YtkjppjhmejkidaaDoorRows
import Derived.Test.YtkjppjhmejkidaaDoorNtAll0
import Derived.ProofKit
import Derived.OpenShut
import Derived.Deep.Slices
namespace Go.Proofs.YtkjppjhmejkidaaDoor
open Go.RowKit

theorem Box5.within {w w' : World} {g lo hi : Nat} {a b c d x : Value} (h : Box5 w g a b c d x) (hW : Within lo hi w w') (hg : g < lo ∨ hi ≤ g) : Box5 w' g a b c d x := by
  unfold Box5; rw [hW.block g h.lt hg]; exact h
theorem lies_within {w w' : World} {A C lo hi : Nat} {es : List Ex} {v : Value} (h : Lies w (fun b => A ≤ b ∧ b < C) es v) (hW : Within lo hi w w') (hC : C ≤ w.heap.size) (hg : C ≤ lo ∨ hi ≤ A) : Lies w' (fun b => A ≤ b ∧ b < C) es v :=
  h.same fun b hb => ⟨hW.block b (by have := hb.2; omega) (by have h1 := hb.1; have h2 := hb.2; omega), hb⟩
theorem lies_stay {w w' : World} {A C : Nat} {es : List Ex} {v : Value} (h : Lies w (fun b => A ≤ b ∧ b < C) es v) (hb : Below w.heap.size w w') (hC : C ≤ w.heap.size) : Lies w' (fun b => A ≤ b ∧ b < C) es v :=
  h.same fun b hb' => ⟨hb.block b (by have := hb'.2; omega), hb'⟩
theorem lies_in {w : World} {A C : Nat} {es : List Ex} {v : Value} (h : Lies w (fun b => A ≤ b ∧ b < C) es v) (hC : C ≤ w.heap.size) : Lies w (· < w.heap.size) es v :=
  h.same fun b hb' => ⟨rfl, by have := hb'.2; show b < _; omega⟩
theorem below_within' {w w1 w2 : World} {B lo hi : Nat} (h : Below B w w1) (hW : Within lo hi w1 w2) (hB : B ≤ lo) (hlo : lo ≤ w1.heap.size) : Below B w w2 := h.trans ((hW.below hlo).mono hB)

set_option maxRecDepth 100000 in
set_option maxHeartbeats 4000000 in
theorem law_NameTidy (e : Ex) (hf : e.Fit) (w : World) (s : Value) (hv : Lies w (· < w.heap.size) e.kids s) (hT : Tab w) :
    Calls Tryd.prog 3 #[e.val s] w fun r w' => r = .returned (.bool true) ∧ Below w.heap.size w w' := by
  go_enter Tryd.func3, Tryd.ntmps3
  go_upto_region 5 with (go_at_call 4; refine (szC e hf _ _ _ (lies_alloc hv _) (by omega) (by omega)).mono ?_; rintro r w2 ⟨⟨n, rfl, hn, hw⟩, hb2⟩; have hwee : Hid (0 ≤ n → e.Wee ∧ (cntAll e.kids : Int) + n ≤ 1048576) := hw; clear hw; have hB2 := box_start hb2; clear hb2)
  · go_ret
    exact ⟨rfl, below_of_box hB2⟩
  have hwe := (hwee.out (by omega)).1
  have hcnt : cntAll e.kids ≤ 1048576 := by have := (hwee.out (by omega)).2; omega
  clear hwee
  obtain ⟨t, ht⟩ : ∃ t, t = tidyE e := ⟨_, rfl⟩
  have hspec := spec_NameTidy e hf hwe
  have himpl := impl_NameTidy e hf hwe
  have htw := tidyE_wee e hwe
  have htc := tidyE_cnt e
  rw [← ht] at hspec himpl htw htc
  clear ht
  obtain ⟨p0, p1, p2, p3, p4⟩ := box5 hB2
  go_upto_region 6 with (first
    | (go_at_call 6; refine (to e hwe _ _ (lies_box hv hB2)).mono ?_; rintro r w3 ⟨s3, rfl, hl3, hb3⟩; have hB3 := below_box_trans hB2 hb3)
    | (go_at_call 5; refine (hspec _ _ (lies_lt hl3)).mono ?_; rintro r w4 ⟨s4, rfl, hl4, hb4⟩; have hB4 := below_box_trans hB3 hb4; obtain ⟨a4, cap4, rfl⟩ := hl4.slice))
  clear p0 p1 p2 p3 p4 hl3 hb3 hb4
  have hB4' := box_alloc (o2 := .cells #[.int .i64 t.kind, .string t.name, .string t.tail, .int .i64 t.num, .slice a4 t.kids.length cap4] 28) hB4
  have hX4 := Box5.new w4 (.int .i64 t.kind) (.string t.name) (.string t.tail) (.int .i64 t.num) (.slice a4 t.kids.length cap4)
  have hL4 := lies_stay hl4 (below_al0 w4 (.cells #[.int .i64 t.kind, .string t.name, .string t.tail, .int .i64 t.num, .slice a4 t.kids.length cap4] 28)) (Nat.le_refl _)
  obtain ⟨w4', hw4'⟩ : ∃ x, x = w4.alloc (.cells #[.int .i64 t.kind, .string t.name, .string t.tail, .int .i64 t.num, .slice a4 t.kids.length cap4] 28) := ⟨_, rfl⟩
  have hz4' : w4'.heap.size = w4.heap.size + 1 := by rw [hw4']; simp
  rw [← hw4'] at hB4' hX4 hL4 ⊢
  clear hw4'
  obtain ⟨p0, p1, p2, p3, p4⟩ := box5 hB4'
  go_wp2_with (first
    | (go_at_call 6; refine (toT e hwe _ _ (lies_box hv hB4')).mono ?_; rintro r w5 ⟨s5, rfl, ht5, hb5⟩; obtain ⟨a5, cap5, rfl⟩ := ht5.slice; have hB5 := below_box_trans hB4' hb5; have hz5 := hb5.size; have hX5 := hX4.keep hb5; have hL5 := lies_stay hL4 hb5 (by omega))
    | (go_at_call 7; refine (himpl _ _ (lies_alloc (lies_lt ht5.lies) _) (tab_box hT (box_alloc hB5))).mono ?_; rintro r w7 ⟨s7, rfl, ht7, hb7⟩; obtain ⟨a7, cap7, rfl⟩ := ht7.slice; have hb57 := below_pre hb7; have hz7 := hb7.size; simp at hz7; have hY7 := box_start hb7; have hB7 := below_box_trans (box_alloc hB5) hb7; have hX7 := hX5.keep hb57; have hL7 := lies_stay hL5 hb57 (by omega); obtain ⟨x0, x1, x2, x3, x4⟩ := (hX7.keep (below_al0 w7 (.cells #[.int .i64 t.kind, .string t.name, .string t.tail, .int .i64 t.num, .slice a7 t.kids.length cap7] 28))).cells; clear p0 p1 p2 p3 p4)
    | (go_at_call 8; refine (eq t htw _ _ _ (lies_alloc (lies_lt ht7.lies) _) (lies_alloc (lies_in hL7 (by omega)) _)).mono ?_; rintro r w8 ⟨rfl, hb8⟩; have hG8 := (Box5.new w7 (.int .i64 t.kind) (.string t.name) (.string t.tail) (.int .i64 t.num) (.slice a7 t.kids.length cap7)).keep hb8; have hb78 := below_pre hb8; have hY8 := below_box_trans hY7 hb78; have hB8 := below_box_trans hB7 hb78; have hX8 := hX7.keep hb78; have hL8 := lies_stay hL7 hb78 (by omega); have hz8 := hb8.size; clear x0 x1 x2 x3 x4))
  obtain ⟨p0, p1, p2, p3, p4⟩ := box5 hB8
  obtain ⟨q0, q1, q2, q3, q4⟩ := box5 hY8
  simp at hz8
  have hlv8 := lies_box hv hB8
  have hl8 := lies_box (lies_lt ht5.lies) hY8
  have HS : ∀ w', Below w8.heap.size w8 w' → (w'.cell? ⟨w5.heap.size, 0, none⟩ = some (.int .i64 e.kind) ∧ w'.cell? ⟨w5.heap.size, 1, none⟩ = some (.string e.name) ∧ w'.cell? ⟨w5.heap.size, 2, none⟩ = some (.string e.tail) ∧ w'.cell? ⟨w5.heap.size, 3, none⟩ = some (.int .i64 e.num) ∧ w'.cell? ⟨w5.heap.size, 4, none⟩ = some (.slice a5 e.kids.length cap5) ∧ w'.cell? ⟨w.heap.size, 0, none⟩ = some (.int .i64 e.kind) ∧ w'.cell? ⟨w.heap.size, 1, none⟩ = some (.string e.name) ∧ w'.cell? ⟨w.heap.size, 2, none⟩ = some (.string e.tail) ∧ w'.cell? ⟨w.heap.size, 3, none⟩ = some (.int .i64 e.num) ∧ w'.cell? ⟨w.heap.size, 4, none⟩ = some s) := fun w' h => by
    obtain ⟨u0, u1, u2, u3, u4⟩ := box5 (below_box_trans hY8 h)
    obtain ⟨t0, t1, t2, t3, t4⟩ := box5 (below_box_trans hB8 h)
    exact ⟨u0, u1, u2, u3, u4, t0, t1, t2, t3, t4⟩
  have hd8 : Below w8.heap.size w8 w8.drew := (Below.refl _ _).drew
  go_region_held3 (fun w' => w'.cell? ⟨w5.heap.size, 0, none⟩ = some (.int .i64 e.kind) ∧ w'.cell? ⟨w5.heap.size, 1, none⟩ = some (.string e.name) ∧ w'.cell? ⟨w5.heap.size, 2, none⟩ = some (.string e.tail) ∧ w'.cell? ⟨w5.heap.size, 3, none⟩ = some (.int .i64 e.num) ∧ w'.cell? ⟨w5.heap.size, 4, none⟩ = some (.slice a5 e.kids.length cap5) ∧ w'.cell? ⟨w.heap.size, 0, none⟩ = some (.int .i64 e.kind) ∧ w'.cell? ⟨w.heap.size, 1, none⟩ = some (.string e.name) ∧ w'.cell? ⟨w.heap.size, 2, none⟩ = some (.string e.tail) ∧ w'.cell? ⟨w.heap.size, 3, none⟩ = some (.int .i64 e.num) ∧ w'.cell? ⟨w.heap.size, 4, none⟩ = some s)
    (first | exact HS _ hc10 | exact HS _ hc9 | exact HS _ hd8)
    (first
      | (go_at_call 6; refine (to e hwe _ _ (hlv8.keep hd8 (Nat.le_refl _))).mono ?_; rintro r w9 ⟨s9, rfl, hl9, hb9⟩; have hc9 := below_next hd8 hb9)
      | (go_at_call 8; refine (eq e hwe _ _ _ (hl8.keep hc9 hc9.size) (lies_lt hl9)).mono ?_; rintro r w10 ⟨rfl, hb10⟩; have hc10 := below_next hc9 hb10))
  clear HS p0 p1 p2 p3 p4 q0 q1 q2 q3 q4 hb9 hb10 hl9 hl8 hlv8
  have hY10 := below_box_trans hY8 hc10
  have hB10 := below_box_trans hB8 hc10
  have hX10 := hX8.keep hc10
  have hG10 := hG8.keep hc10
  have hL10 := lies_stay hL8 hc10 (by omega)
  have hz10 := hc10.size
  have hT10 : Tree w10 w4'.heap.size w5.heap.size e.kids (.slice a5 e.kids.length cap5) := ht5.keep (below_of_box hY10) (Nat.le_refl _)
  have hb710 : Below w7.heap.size w7 w10 := below_next (below_pre hb8) hc10
  have hU10 : Tree w10 (w5.heap.size + 1) w7.heap.size t.kids (.slice a7 t.kids.length cap7) := by simpa using ht7.keep hb710 (Nat.le_refl _)
  have hmk : 1 + 4 * cntAll e.kids ≤ 100000000 := by omega
  have hmt : 1 + 4 * cntAll t.kids ≤ 100000000 := by omega
  have hge1 : 0 ≤ (1 : Int) + 4 * (cntAll e.kids : Int) := by omega
  have hge2 : 0 ≤ (1 : Int) + 4 * (cntAll t.kids : Int) := by omega
  have hBw4 : w.heap.size + 1 ≤ w4'.heap.size := by have := hB4'.size; simpa using this
  have hmark := law_markExpr e hwe w10 _ _ _ 1 hT10 (by omega) (Nat.le_refl _) hmk
  obtain ⟨q0, q1, q2, q3, q4⟩ := box5 hY10
  go_upto_region 17 with (first
    | (go_at_call 9; refine hmark.mono ?_; rintro r w11 ⟨rfl, _, hW11⟩; have hB11 := below_within' hB10 hW11 hBw4 (by omega); have hX11 := hX10.within hW11 (Or.inl (by omega)); have hG11 := hG10.within hW11 (Or.inr (by omega)); have hL11 := lies_within hL10 hW11 (by omega) (Or.inl (by omega)); have hU11 : Tree w11 (w5.heap.size + 1) w7.heap.size t.kids (.slice a7 t.kids.length cap7) := hU10.same (fun b hb1 hb2 => hW11.block b (by omega) (Or.inr (by omega))); have hz11 := hW11.size; obtain ⟨x0, x1, x2, x3, x4⟩ := hX11.cells; obtain ⟨g0, g1, g2, g3, g4⟩ := hG11.cells; clear q0 q1 q2 q3 q4)
    | (go_at_call 8; refine (eq t htw _ _ _ (lies_in hU11.lies (by omega)) (lies_in hL11 (by omega))).mono ?_; rintro r w12 ⟨rfl, hb12⟩; have hB12 := below_box_trans hB11 hb12; have hX12 := hX11.keep hb12; have hG12 := hG11.keep hb12; have hL12 := lies_stay hL11 hb12 (by omega); have hU12 := hU11.keep hb12 (by omega); have hz12 := hb12.size; clear x0 x1 x2 x3 x4 g0 g1 g2 g3 g4))
  have hmark2 := law_markExpr t htw w12 _ _ _ 1 hU12 (by omega) (Nat.le_refl _) hmt
  obtain ⟨g0, g1, g2, g3, g4⟩ := hG12.cells
  go_upto_region 24 with (first
    | (go_at_call 9; refine hmark2.mono ?_; rintro r w13 ⟨rfl, hM13, hW13⟩; have hB13 := below_within' hB12 hW13 (by omega) (by omega); have hX13 := hX12.within hW13 (Or.inl (by omega)); have hG13 := hG12.within hW13 (Or.inr (by omega)); have hL13 := lies_within hL12 hW13 (by omega) (Or.inl (by omega)); have hz13 := hW13.size; clear g0 g1 g2 g3 g4; obtain ⟨g0, g1, g2, g3, g4⟩ := hG13.cells)
    | (go_at_call 10; refine (law_heldExpr t htw t _ _ 1 (lies_in hM13.lies (by omega)) (Nat.le_refl _) hmt).mono ?_; rintro r w14 ⟨rfl, hb14⟩; have hB14 := below_box_trans hB13 hb14; have hX14 := hX13.keep hb14; have hG14 := hG13.keep hb14; have hL14 := lies_stay hL13 hb14 (by omega); have hM14 := hM13.keep hb14 (by omega); have hz14 := hb14.size))
  clear g0 g1 g2 g3 g4
  obtain ⟨p0, p1, p2, p3, p4⟩ := box5 hB14
  go_upto_region 27 with (first
    | (go_at_call 6; refine (to e hwe _ _ (lies_box hv hB14)).mono ?_; rintro r w15 ⟨s15, rfl, hl15, hb15⟩; have hB15 := below_box_trans hB14 hb15; have hX15 := hX14.keep hb15; have hG15 := hG14.keep hb15; have hL15 := lies_stay hL14 hb15 (by omega); have hM15 := hM14.keep hb15 (by omega); have hz15 := hb15.size)
    | (go_at_call 7; refine (himpl _ _ (lies_lt hl15) (tab_box hT hB15)).mono ?_; rintro r w16 ⟨s16, rfl, ht16, hb16⟩; obtain ⟨a16, cap16, rfl⟩ := ht16.slice; have hB16 := below_box_trans hB15 hb16; have hX16 := hX15.keep hb16; have hG16 := hG15.keep hb16; have hL16 := lies_stay hL15 hb16 (by omega); have hM16 := hM15.keep hb16 (by omega); have hz16 := hb16.size; obtain ⟨x0, x1, x2, x3, x4⟩ := (hX16.keep (below_al0 w16 (.cells #[.int .i64 t.kind, .string t.name, .string t.tail, .int .i64 t.num, .slice a16 t.kids.length cap16] 28))).cells; clear p0 p1 p2 p3 p4)
    | (go_at_call 8; refine (eq t htw _ _ _ (lies_alloc (lies_lt ht16.lies) _) (lies_alloc (lies_in hL16 (by omega)) _)).mono ?_; rintro r w17 ⟨rfl, hb17⟩; have hb167 := below_pre hb17; have hB17 := below_box_trans hB16 hb167; have hG17 := hG16.keep hb167; have hM17 := hM16.keep hb167 (by omega); have hz17 := hb17.size; clear x0 x1 x2 x3 x4))
  simp at hz17
  obtain ⟨g0, g1, g2, g3, g4⟩ := hG17.cells
  go_wp2_with (go_at_call 10; refine (law_heldExpr t htw t _ _ 1 (lies_in hM17.lies (by omega)) (Nat.le_refl _) hmt).mono ?_; rintro r w18 ⟨rfl, hb18⟩; have hB18 := below_box_trans hB17 hb18)
  go_ret
  exact ⟨rfl, below_of_box hB18⟩
end Go.Proofs.YtkjppjhmejkidaaDoor

namespace Go.Proofs.YtkjppjhmejkidaaDoor
open Go.RowKit

instance : Inhabited Ex := ⟨.mk 0 ⟨#[]⟩ ⟨#[]⟩ 0 []⟩

theorem cellsInt : Tryd.prog.cellsOf 3 = 1 := by kernel_rfl
theorem cellsStr : Tryd.prog.cellsOf 9 = 1 := by kernel_rfl
theorem cellsLaw : Tryd.prog.cellsOf 24 = 5 := by kernel_rfl
theorem cellsLawS : Tryd.prog.cellsOf 22 = 1 := by kernel_rfl

theorem one_of_take {cs : List Value} {i : Nat} {v : Value} (hlt : i < cs.length) (h : (cs.drop i).take 1 = [v]) : cs[i] = v := by
  rw [List.drop_eq_getElem_cons hlt, List.take_succ_cons] at h
  exact (List.cons.inj h).1

/-- The cells of a value that can be read, from an address on. -/
theorem range_of_cells {w : World} {base b off n : Nat} {cs : List Value} (h : w.cells? base ⟨b, off, none⟩ n = some cs) : w.rangeAt b off cs := by
  intro j v hj
  obtain ⟨_, hl, hc⟩ := World.cells?_some h
  have hlt := (List.getElem?_eq_some_iff.1 hj).1
  have := hc j (by omega)
  rw [Addr.add_mid] at this
  rw [this, hj]

theorem range_map {α : Type} {f : Nat → α} {len i : Nat} {x : α} (h : ((List.range len).map f)[i]? = some x) : i < len ∧ f i = x := by
  obtain ⟨hi, hx⟩ := List.getElem?_eq_some_iff.1 h
  simp at hi hx
  exact ⟨hi, hx⟩
theorem five_list {cs : List Value} (h : cs.length = 5) : cs = [cs[0], cs[1], cs[2], cs[3], cs[4]] := by
  match cs, h with
  | [_, _, _, _, _], _ => rfl

theorem open_expr {H : Type} {enc : TypeId × Value → H} {w : World} {base : Nat} {sp : Nat → Bool} {held : Bool} : ∀ (fuel : Nat) (cs : List Value) (x : DataW H × List MemPlace),
    DataW.trod enc Tryd.prog w base sp held fuel 24 cs = some x → ∃ e s, cs = Ex.cells e s ∧ Lies w (· < w.heap.size) e.kids s ∧ e.Fit := by
  intro fuel
  induction fuel using Nat.strongRecOn with
  | _ fuel ih =>
    intro cs x h
    obtain ⟨xs, n, rfl, _, hlen, hxs, hat⟩ := DataW.trod_struct Tryd.underlying24 h
    rw [cellsLaw] at hlen
    have h0 := hat 0 _ rfl
    have h1 := hat 1 _ rfl
    have h2 := hat 2 _ rfl
    have h3 := hat 3 _ rfl
    have h4 := hat 4 _ rfl
    have hxs' : xs.length = 5 := hxs
    rw [List.getElem?_eq_getElem (by omega)] at h0 h1 h2 h3 h4
    obtain ⟨k, e0, _, _⟩ := DataW.trod_int Tryd.underlying3 h0
    obtain ⟨a, e1, _, ha⟩ := DataW.trod_string Tryd.underlying9 h1
    obtain ⟨b, e2, _, hb⟩ := DataW.trod_string Tryd.underlying9 h2
    obtain ⟨u, e3, _, _⟩ := DataW.trod_int Tryd.underlying3 h3
    have e0 : (cs.drop 0).take (Tryd.prog.cellsOf 3) = [.int .i64 k] := e0
    have e1 : (cs.drop 1).take (Tryd.prog.cellsOf 9) = [.string a] := e1
    have e2 : (cs.drop 2).take (Tryd.prog.cellsOf 9) = [.string b] := e2
    have e3 : (cs.drop 3).take (Tryd.prog.cellsOf 3) = [.int .i64 u] := e3
    rw [cellsInt] at e0 e3
    rw [cellsStr] at e1 e2
    have c0 := one_of_take (by omega) e0
    have c1 := one_of_take (by omega) e1
    have c2 := one_of_take (by omega) e2
    have c3 := one_of_take (by omega) e3
    obtain ⟨es, s, e4, hlies, hkl, hkf⟩ : ∃ (es : List Ex) (s : Value), (cs.drop 4).take 1 = [s] ∧ Lies w (· < w.heap.size) es s ∧ es.length ≤ maxLen ∧ ∀ x ∈ es, x.Fit := by
      have h4 : DataW.trod enc Tryd.prog w base sp held n 22 ((cs.drop 4).take (Tryd.prog.cellsOf 22)) = some xs[4] := h4
      rw [cellsLawS] at h4
      rcases DataW.trod_slice Tryd.underlying22 h4 with ⟨hnil, _⟩ | ⟨ad, len, cap, elems, rest, m, hm, hsl, _, hbb, hlc, hcap, hel, helem, _, _⟩
      · exact ⟨[], _, hnil, .none _ _, Nat.zero_le _, by simp⟩
      · rw [cellsLaw] at helem
        have key : ∀ i, i < len → ∃ q : Ex × Value, w.cells? base (ad.add (i * 5)) 5 = some (q.1.cells q.2) ∧ Lies w (· < w.heap.size) q.1.kids q.2 ∧ q.1.Fit := fun i hi => by
          have := helem i hi
          rw [List.getElem?_eq_getElem (by omega)] at this
          obtain ⟨cs', hc1, hc2⟩ := Option.bind_eq_some_iff.1 this
          obtain ⟨e, s, rfl, hl, hf⟩ := ih m (by omega) cs' _ hc2
          exact ⟨(e, s), hc1, hl, hf⟩
        obtain ⟨f, hf⟩ := Go.Deep.choose_lt key
        refine ⟨(List.range len).map fun i => (f i).1, .slice (some ad) len cap, hsl, ?_, by simp; omega, ?_⟩
        · by_cases hz : len = 0
          · subst hz; exact .none _ _
          · obtain ⟨b0, off, spot⟩ := ad
            have hs0 := (World.cells?_some (hf 0 (by omega)).1).2.2 0 (by omega)
            have hspot : spot = none := by simpa [Addr.add, Ex.cells] using World.cell?_spot (v := .int .i64 (f 0).1.kind) (by simpa [Ex.cells, Addr.add] using hs0)
            subst hspot
            have hblk : b0 < w.heap.size := by simpa [Addr.add] using World.cells?_block (hf 0 (by omega)).1 (by omega)
            have := Lies.some (w := w) (S := (· < w.heap.size)) b0 off cap ((List.range len).map fun i => (f i).1) ((List.range len).map fun i => (f i).2) hblk (by simp) ?_ ?_
            · simpa using this
            · intro i e s he hs
              obtain ⟨hi, rfl⟩ := range_map he
              obtain ⟨_, rfl⟩ := range_map hs
              have := (hf i hi).1
              rw [Addr.add_mid] at this
              exact range_of_cells this
            · intro i e s he hs
              obtain ⟨hi, rfl⟩ := range_map he
              obtain ⟨_, rfl⟩ := range_map hs
              exact (hf i hi).2.1
        · intro x hx
          obtain ⟨i, hi, rfl⟩ := List.mem_map.1 hx
          exact (hf i (by simpa using hi)).2.2
    have c4 := one_of_take (by omega) e4
    refine ⟨.mk k a b u es, s, ?_, hlies, .mk _ ha hb hkl hkf⟩
    rw [five_list hlen, c0, c1, c2, c3, c4]
    rfl
end Go.Proofs.YtkjppjhmejkidaaDoor

