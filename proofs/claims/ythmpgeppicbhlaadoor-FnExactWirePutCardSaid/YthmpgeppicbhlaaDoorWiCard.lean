/-
  Proved: for every list of cells and every word that can be read the law FnExactWirePut answers true (the program's WirePut is the specification's, and writes into no argument), and both read afterwards as they read before. Conditions: none on the arguments; the library's tables and the table of the words of kinds hold what the program's text lays in them (the card ties the listed variables to the program's text).
-/
import Derived.Test.YthmpgeppicbhlaaDoorCards
import Derived.Test.YthmpgeppicbhlaaDoorTie
import Derived.Test.YthmpgeppicbhlaaDoorWiLaw
import Derived.Test.YthmpgeppicbhlaaDoorNmMath
import Derived.Test.YthmpgeppicbhlaaDoorCeOpen
import Derived.WalkKit
import Derived.Lay
import Derived.LaidSub
import Derived.Lib.LaidTab
import Derived.ProofKit
import Derived.OpenShut
import Derived.Deep.DeepHandedRow
namespace Go.Proofs.YthmpgeppicbhlaaDoor
open Go.ChangeShapes Go.WideShapes Go.ChangeAt Go.RowKit

theorem own : ownKnob Tryd.prog.godebug = none := by kernel_rfl
theorem laidOut : laidOutB Tryd.prog = true := by kernel_rfl
theorem gTab : Tryd.prog.globalNamed "internal/strconv.uint64pow10" = some 1 := by kernel_rfl
theorem gTabType : (Tryd.prog.globals[1]?).map (·.type) = some 98 := by kernel_rfl
theorem cellsTab : Tryd.prog.cellsOf 98 = 20 := by kernel_rfl
theorem cellsOne : Tryd.prog.cellsOf 92 = 1 := by kernel_rfl
theorem datum : (Rows.laid_internal_strconv_uint64pow10 : DataW Unit) = Lib.tabData .u64 Lib.pow10Tab := by kernel_rfl

/-- WHAT THE ROW's LIST GIVES: the table holds the powers. -/
theorem table {W : World} (h : laidMetH Tryd.prog Rows.fnExactWirePutRow.laid W) : PowTab W := by
  have h1 : laidMet Tryd.prog [("internal/strconv.uint64pow10", Rows.laid_internal_strconv_uint64pow10)] W := laidMetH.filter (fun x => x.1 == "internal/strconv.uint64pow10") h
  rw [datum] at h1
  exact Lib.tabIs_of_head gTab gTabType Tryd.underlying98 Tryd.underlying92 cellsOne cellsTab h1

theorem gKind : Tryd.prog.globalNamed "loop.example/ensemble/impl.cellWords" = some 0 := by kernel_rfl
theorem gKindType : (Tryd.prog.globals[0]?).map (·.type) = some 74 := by kernel_rfl
theorem cellsKind : Tryd.prog.cellsOf 74 = 5 := by kernel_rfl
theorem cellsStr : Tryd.prog.cellsOf 9 = 1 := by kernel_rfl
def kindWords : List ByteArray := [⟨#[112, 97, 105, 114]⟩, ⟨#[99, 111, 110, 115]⟩, ⟨#[101, 110, 118]⟩, ⟨#[102, 117, 110]⟩, ⟨#[114, 101, 99]⟩]
/-- WHAT THE ROW's LIST GIVES: the table of the words of kinds. -/
theorem kinds {W : World} (h : laidMetH Tryd.prog Rows.fnExactWirePutRow.laid W) : W.var? Tryd.prog "loop.example/ensemble/impl.cellWords" = some kindVals :=
  strs_of_head (zs := kindWords) (rest := []) gKind gKindType Tryd.underlying74 Tryd.underlying9 cellsStr cellsKind (laidMetH.filter (fun x => x.1 == "loop.example/ensemble/impl.cellWords") h)
theorem kinds_of_var {W : World} (h : W.var? Tryd.prog "loop.example/ensemble/impl.cellWords" = some kindVals) : CTab W := by
  simp only [World.var?, gKind, Option.bind_some] at h
  split at h
  · rename_i c t fr hb
    simp only [Option.some.injEq] at h
    subst h
    exact ⟨t, fr, hb⟩
  · cases h

set_option maxRecDepth 100000 in
/-- An argument that is a word: its value is two cells. -/
theorem open_arg {H : Type} {enc : TypeId × Value → H} {W : World} {base : Nat} {v : Value} {d : DataW H} {p : List MemPlace} (hok : Value.okWide Tryd.prog W .any base 24 v) (h : DataW.Trod enc Tryd.prog W 0 (fun _ => true) true 24 v d p) :
    ∃ t u : Int, v = .agg #[.int .i64 t, .int .i64 u] := by
  obtain ⟨fuel, hf⟩ := h
  obtain ⟨e, hc⟩ := open_word fuel _ _ hf
  refine ⟨e.tag, e.num, ?_⟩
  unfold Value.okWide at hok
  rw [Tryd.underlying24] at hok
  obtain ⟨cs, rfl, _, _⟩ := hok
  have hcs : cs.toList = Wd.cells e := hc
  cases cs
  simp only at hcs
  subst hcs
  rfl

set_option maxRecDepth 100000 in
theorem contract (H : Type) (enc : TypeId × Value → H) (W : World) (base : Nat) (args : Array Value) (ds gs : List (DataW H)) (before : List MemPlace)
    (hval : ∀ (j : Nat) t v, Tryd.f3.params[j]? = some t → args[j]? = some v → Value.okWide Tryd.prog W .any base t v)
    (hW : DataW.Whole enc Tryd.prog Tryd.f3.params.toList Rows.fnExactWirePutSpec.vars false W args.toList ds gs before) (hL : laidMetH Tryd.prog Rows.fnExactWirePutRow.laid W) :
    Calls Tryd.prog 3 args W fun e W' => ∃ v, e = .returned v ∧ Rows.fnExactWirePutSpec.post enc Tryd.prog Tryd.f3 false true false false W args v W' := by
  have hW' := hW
  obtain ⟨p, q, hA0, hV0, rfl, hfz, hnd⟩ := hW
  have hA : DataW.TrodAll enc Tryd.prog W 0 (fun _ => true) true Tryd.f3.params.toList args.toList ds p := hA0
  have hV : DataW.TrodVars enc Tryd.prog W (fun _ => true) ["loop.example/ensemble/impl.cellWords"] gs q := hV0
  rw [Tryd.params3] at hA hval
  obtain ⟨v0, vs0, d0, ds0, p0, q0, hargs, rfl, rfl, h0, r0⟩ := trodAll_cons hA
  obtain ⟨v1, vs1, d1, ds1, p1, q1, rfl, rfl, rfl, h1, r1⟩ := trodAll_cons r0
  obtain ⟨rfl, rfl, rfl⟩ := trodAll_nil r1
  obtain rfl : args = #[v0, v1] := by cases args; simp_all
  obtain ⟨g, t, kc, fuel, dk, p', rfl, hg, ht, hvar, hd, rfl⟩ := trodVars_one hV
  obtain rfl := Option.some.inj (gKind.symm.trans hg)
  obtain rfl := Option.some.inj (gKindType.symm.trans ht)
  have h0k := h0
  have h1k := h1
  obtain ⟨cs, hrow, hlen⟩ := open_cells (hval 0 22 v0 rfl rfl) h0
  obtain ⟨tg, u, rfl⟩ := open_arg (hval 1 24 v1 rfl rfl) h1
  have hT := table hL
  have hkv := kinds hL
  obtain rfl := Option.some.inj (hkv.symm.trans hvar)
  have hCT := kinds_of_var hkv
  clear hA0 hV0 hA hV
  have hlt0 : ∀ x ∈ p0, x.block < W.heap.size := fun x hx => hW'.lt x (List.mem_append_left _ (List.mem_append_left _ hx))
  have hlt1 : ∀ x ∈ p1, x.block < W.heap.size := fun x hx => hW'.lt x (List.mem_append_left _ (List.mem_append_right _ (List.mem_append_left _ hx)))
  have hltv : ∀ x ∈ p', x.block < W.heap.size := fun x hx => hW'.lt x (List.mem_append_right _ (List.mem_append_right _ hx))
  refine (law_WirePut cs hlen ⟨tg, u⟩ W v0 hrow hT hCT).mono fun r W' ⟨he, hB⟩ => ?_
  subst he
  obtain ⟨fuel', hd'⟩ := Below.trod laidOut (by kernel_rfl) (of_decide_eq_true (by kernel_rfl)) (v := .agg kindVals) (⟨fuel, by simpa [Value.cells] using hd⟩ : DataW.Trod enc Tryd.prog W 0 (fun _ => true) true 74 (.agg kindVals) dk p') hB hltv
  have hv' := trodVars_mk1 (enc := enc) (spare := fun b => decide (b < W.heap.size)) hg ht (var?_below hB hg hCT.pos hvar) (by simpa [Value.cells] using hd')
  refine ⟨_, rfl, _, _, _, [], p0 ++ (p1 ++ []), (MemPlace.row ⟨0, 0, none⟩ kindVals.size ++ p'), hW', ?_, ?_, ?_, hB.frame _, fun h => by cases h⟩
  · exact trodAll_mk1 (shut_bool Tryd.underlying4 _)
  · exact trodAll_cons_mk (Below.trod laidOut (by kernel_rfl) (of_decide_eq_true (by kernel_rfl)) h0k hB hlt0) (trodAll_cons_mk (Below.trod laidOut (by kernel_rfl) (of_decide_eq_true (by kernel_rfl)) h1k hB hlt1) trodAll_mk0)
  · exact hv'

/-- The witness: no word. -/
abbrev wit : Value := .agg #[.int .i64 0, .int .i64 0]
/-- A WORLD FOR THE WITNESS: the settled one, the table holding what its initialiser lays. -/
noncomputable def laidWorld (os : Os) : World := World.laidAll Tryd.prog os Rows.fnExactWirePutRow.laid
theorem laid_met (os : Os) : laidMet Tryd.prog Rows.fnExactWirePutRow.laid ((laidWorld os).forCall (fun _ _ => 0) ⟨#[], #[.slice none 0 0, wit], []⟩).memory :=
  laidMet_laidAll _ (by kernel_rfl) (by kernel_rfl)
theorem reads (os : Os) {H : Type} (enc : TypeId × Value → H) : ∃ places, DataW.whole enc Tryd.prog ((laidWorld os).forCall (fun _ _ => 0) ⟨#[], #[.slice none 0 0, wit], []⟩).memory Tryd.f3.params.toList Rows.fnExactWirePutSpec.vars false #[.slice none 0 0, wit].toList 8 = some ([.nil, .agg [.lit (.int .i64 0), .lit (.int .i64 0)]], [Rows.laid_loop_example_ensemble_impl_cellWords], places) :=
  ⟨MemPlace.row ⟨0, 0, none⟩ 5, by kernel_rfl⟩

set_option maxRecDepth 100000 in
theorem lifted (os : Os) (started : os.Started) (H : Type) (enc : TypeId × Value → H) (F : Stop.Interp) :
    ReturnsInHanded {} Tryd.checked os 3 .any ((OpenSpec.ofChange Rows.fnExactWirePutSpec).preRow enc Tryd.prog Tryd.f3 Rows.fnExactWirePutRow.domain false Rows.fnExactWirePutRow.laid) (((OpenSpec.ofChange Rows.fnExactWirePutSpec).at F).post enc Tryd.prog Tryd.f3 false true false false) := by
  obtain ⟨places, hx⟩ := reads os enc
  refine returnsInHanded_of_row (C := Tryd.checked) (s := OpenSpec.ofChange Rows.fnExactWirePutSpec) own started (by kernel_rfl) Tryd.func3
    (witness_row_at (enc := enc) (C := Tryd.checked) false (laidWorld os) #[.slice none 0 0, wit] (World.laidAll_os _ _ _) (by kernel_rfl) (by kernel_rfl) (by kernel_rfl)
      (OpenSpec.preRow_of_cond 8 hx (by kernel_rfl) (fun k hk => by cases hk) (by kernel_rfl) (laid_met os))) ?_
  intro W base args ds gs before hval hW _ _ _ hL _ _
  exact contract H enc W base args ds gs before hval hW hL

theorem said : Rows.FnExactWirePutSaid :=
  OpenClaim.holds_of_cond 3 Tryd.f3 rfl rfl rfl rfl rfl rfl rfl ⟨rfl, rfl, rfl, rfl, rfl⟩ rfl rfl rfl rfl rfl (by kernel_rfl) Tryd.func3 (by kernel_rfl)
    (of_decide_eq_true (by kernel_rfl)) (by unfold Func.isWrapper; first | (rw [if_pos (by decide +kernel)]; kernel_rfl) | (rw [if_neg (by decide +kernel)]; exact ⟨rfl, rfl⟩))
    (fun os started H enc _ F => by rw [OpenClaim.pre_eq_preRow]; exact lifted os started H enc F)

/-- No parameter wants a stand-in; the program's own looks: what the card asks. -/
theorem plain (f : FuncId) (fn : Func) (hf : Tryd.pinned.checked.prog.funcNamed "loop.example/ensemble/laws.FnExactWirePut" = some f) (hfn : Tryd.pinned.checked.prog.funcs[f]? = some fn) :
    Rows.fnExactWirePutCard.stood.looks = Tryd.pinned.checked.prog.looks [] ∧ ∀ (j : Nat) t, fn.params[j]? = some t → Tryd.pinned.checked.prog.wantsStandIn t = false := by
  obtain rfl : f = 3 := Option.some.inj ((show Tryd.prog.funcNamed "loop.example/ensemble/laws.FnExactWirePut" = some 3 by kernel_rfl).symm.trans hf) |>.symm
  obtain rfl : fn = Tryd.f3 := (Option.some.inj (Tryd.func3.symm.trans hfn)).symm
  refine ⟨by kernel_rfl, fun j t ht => ?_⟩
  rw [Tryd.params3] at ht
  have ht2 : t = 22 ∨ t = 24 := by simpa using Array.mem_of_getElem? ht
  rcases ht2 with rfl | rfl
  · exact (show Tryd.prog.wantsStandIn 22 = false by kernel_rfl)
  · exact (show Tryd.prog.wantsStandIn 24 = false by kernel_rfl)

/-- THE CARD. -/
theorem card : Rows.FnExactWirePutCardSaid :=
  Claim7.holds_tied_plain_at .later [] _ _ _ _ said (fun _ h => by cases h) (by kernel_rfl) (fun _ h => by cases h) fnExactWirePut_row_tie rfl ⟨rfl, rfl⟩ (by kernel_rfl) rfl plain (by kernel_rfl)
#print axioms card
end Go.Proofs.YthmpgeppicbhlaaDoor
