/-
  Proved: for every list of ops that can be read the law FnExactCodePut answers true (the program's CodePut is the specification's, and writes into no argument), and the list reads afterwards as it read before. Conditions: none on the argument; the library's tables and the table of the words of ops hold what the program's text lays in them (the card ties the listed variables to the program's text).
-/
import Derived.Test.YtmbldcmmpbodgaaDoorCards
import Derived.Test.YtmbldcmmpbodgaaDoorTie
import Derived.Test.YtmbldcmmpbodgaaDoorCwLaw
import Derived.Test.YtmbldcmmpbodgaaDoorNmMath
import Derived.Test.YtmbldcmmpbodgaaDoorOpOpen
import Derived.WalkKit
import Derived.Lay
import Derived.LaidSub
import Derived.Lib.LaidTab
import Derived.ProofKit
import Derived.OpenShut
import Derived.Deep.DeepHandedRow
namespace Go.Proofs.YtmbldcmmpbodgaaDoor
open Go.ChangeShapes Go.WideShapes Go.ChangeAt Go.RowKit

theorem own : ownKnob Tryd.prog.godebug = none := by kernel_rfl
theorem laidOut : laidOutB Tryd.prog = true := by kernel_rfl
theorem gTab : Tryd.prog.globalNamed "internal/strconv.uint64pow10" = some 1 := by kernel_rfl
theorem gTabType : (Tryd.prog.globals[1]?).map (·.type) = some 101 := by kernel_rfl
theorem cellsTab : Tryd.prog.cellsOf 101 = 20 := by kernel_rfl
theorem cellsOne : Tryd.prog.cellsOf 94 = 1 := by kernel_rfl
theorem datum : (Rows.laid_internal_strconv_uint64pow10 : DataW Unit) = Lib.tabData .u64 Lib.pow10Tab := by kernel_rfl

/-- WHAT THE ROW's LIST GIVES: the table holds the powers. -/
theorem table {W : World} (h : laidMetH Tryd.prog Rows.fnExactCodePutRow.laid W) : PowTab W := by
  have h1 : laidMet Tryd.prog [("internal/strconv.uint64pow10", Rows.laid_internal_strconv_uint64pow10)] W := laidMetH.filter (fun x => x.1 == "internal/strconv.uint64pow10") h
  rw [datum] at h1
  exact Lib.tabIs_of_head gTab gTabType Tryd.underlying101 Tryd.underlying94 cellsOne cellsTab h1

theorem gKind : Tryd.prog.globalNamed "loop.example/ensemble/impl.codeWords" = some 0 := by kernel_rfl
theorem gKindType : (Tryd.prog.globals[0]?).map (·.type) = some 58 := by kernel_rfl
theorem cellsKind : Tryd.prog.cellsOf 58 = 24 := by kernel_rfl
theorem cellsStr : Tryd.prog.cellsOf 9 = 1 := by kernel_rfl
def kindWords : List ByteArray := [⟨#[110, 117, 109]⟩, ⟨#[98, 111, 111, 108]⟩, ⟨#[118, 97, 114]⟩, ⟨#[102, 117, 110]⟩, ⟨#[114, 101, 99]⟩, ⟨#[99, 97, 108, 108]⟩, ⟨#[98, 105, 110, 100]⟩, ⟨#[100, 114, 111, 112]⟩, ⟨#[105, 102]⟩, ⟨#[103, 111]⟩, ⟨#[112, 97, 105, 114]⟩, ⟨#[102, 115, 116]⟩, ⟨#[115, 110, 100]⟩, ⟨#[110, 105, 108]⟩, ⟨#[99, 111, 110, 115]⟩, ⟨#[99, 97, 115, 101]⟩, ⟨#[111, 112]⟩, ⟨#[115, 112, 97, 119, 110]⟩, ⟨#[115, 101, 110, 100]⟩, ⟨#[115, 101, 108, 102]⟩, ⟨#[114, 101, 99, 118]⟩, ⟨#[111, 117, 116]⟩, ⟨#[108, 105, 110, 107]⟩, ⟨#[103, 105, 118, 101]⟩]
/-- WHAT THE ROW's LIST GIVES: the table of the words of kinds. -/
theorem kinds {W : World} (h : laidMetH Tryd.prog Rows.fnExactCodePutRow.laid W) : W.var? Tryd.prog "loop.example/ensemble/impl.codeWords" = some codeVals :=
  strs_of_head (zs := kindWords) (rest := []) gKind gKindType Tryd.underlying58 Tryd.underlying9 cellsStr cellsKind (laidMetH.filter (fun x => x.1 == "loop.example/ensemble/impl.codeWords") h)
theorem kinds_of_var {W : World} (h : W.var? Tryd.prog "loop.example/ensemble/impl.codeWords" = some codeVals) : OTab W := by
  simp only [World.var?, gKind, Option.bind_some] at h
  split at h
  · rename_i c t fr hb
    simp only [Option.some.injEq] at h
    subst h
    exact ⟨t, fr, hb⟩
  · cases h

set_option maxRecDepth 100000 in
theorem contract (H : Type) (enc : TypeId × Value → H) (W : World) (base : Nat) (args : Array Value) (ds gs : List (DataW H)) (before : List MemPlace)
    (hval : ∀ (j : Nat) t v, Tryd.f3.params[j]? = some t → args[j]? = some v → Value.okWide Tryd.prog W .any base t v)
    (hW : DataW.Whole enc Tryd.prog Tryd.f3.params.toList Rows.fnExactCodePutSpec.vars false W args.toList ds gs before) (hL : laidMetH Tryd.prog Rows.fnExactCodePutRow.laid W) :
    Calls Tryd.prog 3 args W fun e W' => ∃ v, e = .returned v ∧ Rows.fnExactCodePutSpec.post enc Tryd.prog Tryd.f3 false true false false W args v W' := by
  have hW' := hW
  obtain ⟨p, q, hA0, hV0, rfl, hfz, hnd⟩ := hW
  have hA : DataW.TrodAll enc Tryd.prog W 0 (fun _ => true) true Tryd.f3.params.toList args.toList ds p := hA0
  have hV : DataW.TrodVars enc Tryd.prog W (fun _ => true) ["loop.example/ensemble/impl.codeWords"] gs q := hV0
  rw [Tryd.params3] at hA hval
  obtain ⟨v0, vs0, d0, ds0, p0, q0, hargs, rfl, rfl, h0, r0⟩ := trodAll_cons hA
  obtain ⟨rfl, rfl, rfl⟩ := trodAll_nil r0
  obtain rfl : args = #[v0] := by cases args; simp_all
  obtain ⟨g, t, kc, fuel, dk, p', rfl, hg, ht, hvar, hd, rfl⟩ := trodVars_one hV
  obtain rfl := Option.some.inj (gKind.symm.trans hg)
  obtain rfl := Option.some.inj (gKindType.symm.trans ht)
  have h0k := h0
  obtain ⟨ops, hrow, hlen⟩ := open_ops (hval 0 22 v0 rfl rfl) h0
  have hT := table hL
  have hkv := kinds hL
  obtain rfl := Option.some.inj (hkv.symm.trans hvar)
  have hCT := kinds_of_var hkv
  clear hA0 hV0 hA hV
  have hlt0 : ∀ x ∈ p0, x.block < W.heap.size := fun x hx => hW'.lt x (List.mem_append_left _ (List.mem_append_left _ hx))
  have hltv : ∀ x ∈ p', x.block < W.heap.size := fun x hx => hW'.lt x (List.mem_append_right _ (List.mem_append_right _ hx))
  refine (law_CodePut ops hlen W v0 hrow hT hCT).mono fun r W' ⟨he, hB⟩ => ?_
  subst he
  obtain ⟨fuel', hd'⟩ := Below.trod laidOut (by kernel_rfl) (of_decide_eq_true (by kernel_rfl)) (v := .agg codeVals) (⟨fuel, by simpa [Value.cells] using hd⟩ : DataW.Trod enc Tryd.prog W 0 (fun _ => true) true 58 (.agg codeVals) dk p') hB hltv
  have hv' := trodVars_mk1 (enc := enc) (spare := fun b => decide (b < W.heap.size)) hg ht (var?_below hB hg hCT.pos hvar) (by simpa [Value.cells] using hd')
  refine ⟨_, rfl, _, _, _, [], p0 ++ [], (MemPlace.row ⟨0, 0, none⟩ codeVals.size ++ p'), hW', ?_, ?_, ?_, hB.frame _, fun h => by cases h⟩
  · exact trodAll_mk1 (shut_bool Tryd.underlying4 _)
  · exact trodAll_cons_mk (Below.trod laidOut (by kernel_rfl) (of_decide_eq_true (by kernel_rfl)) h0k hB hlt0) trodAll_mk0
  · exact hv'

/-- A WORLD FOR THE WITNESS: the settled one, the table holding what its initialiser lays. -/
noncomputable def laidWorld (os : Os) : World := World.laidAll Tryd.prog os Rows.fnExactCodePutRow.laid
theorem laid_met (os : Os) : laidMet Tryd.prog Rows.fnExactCodePutRow.laid ((laidWorld os).forCall (fun _ _ => 0) ⟨#[], #[.slice none 0 0], []⟩).memory :=
  laidMet_laidAll _ (by kernel_rfl) (by kernel_rfl)
theorem reads (os : Os) {H : Type} (enc : TypeId × Value → H) : ∃ places, DataW.whole enc Tryd.prog ((laidWorld os).forCall (fun _ _ => 0) ⟨#[], #[.slice none 0 0], []⟩).memory Tryd.f3.params.toList Rows.fnExactCodePutSpec.vars false #[.slice none 0 0].toList 8 = some ([.nil], [Rows.laid_loop_example_ensemble_impl_codeWords], places) :=
  ⟨MemPlace.row ⟨0, 0, none⟩ 24, by kernel_rfl⟩

set_option maxRecDepth 100000 in
theorem lifted (os : Os) (started : os.Started) (H : Type) (enc : TypeId × Value → H) (F : Stop.Interp) :
    ReturnsInHanded {} Tryd.checked os 3 .any ((OpenSpec.ofChange Rows.fnExactCodePutSpec).preRow enc Tryd.prog Tryd.f3 Rows.fnExactCodePutRow.domain false Rows.fnExactCodePutRow.laid) (((OpenSpec.ofChange Rows.fnExactCodePutSpec).at F).post enc Tryd.prog Tryd.f3 false true false false) := by
  obtain ⟨places, hx⟩ := reads os enc
  refine returnsInHanded_of_row (C := Tryd.checked) (s := OpenSpec.ofChange Rows.fnExactCodePutSpec) own started (by kernel_rfl) Tryd.func3
    (witness_row_at (enc := enc) (C := Tryd.checked) false (laidWorld os) #[.slice none 0 0] (World.laidAll_os _ _ _) (by kernel_rfl) (by kernel_rfl) (by kernel_rfl)
      (OpenSpec.preRow_of_cond 8 hx (by kernel_rfl) (fun k hk => by cases hk) (by kernel_rfl) (laid_met os))) ?_
  intro W base args ds gs before hval hW _ _ _ hL _ _
  exact contract H enc W base args ds gs before hval hW hL

theorem said : Rows.FnExactCodePutSaid :=
  OpenClaim.holds_of_cond 3 Tryd.f3 rfl rfl rfl rfl rfl rfl rfl ⟨rfl, rfl, rfl, rfl, rfl⟩ rfl rfl rfl rfl rfl (by kernel_rfl) Tryd.func3 (by kernel_rfl)
    (of_decide_eq_true (by kernel_rfl)) (by unfold Func.isWrapper; first | (rw [if_pos (by decide +kernel)]; kernel_rfl) | (rw [if_neg (by decide +kernel)]; exact ⟨rfl, rfl⟩))
    (fun os started H enc _ F => by rw [OpenClaim.pre_eq_preRow]; exact lifted os started H enc F)

/-- No parameter wants a stand-in; the program's own looks: what the card asks. -/
theorem plain (f : FuncId) (fn : Func) (hf : Tryd.pinned.checked.prog.funcNamed "loop.example/ensemble/laws.FnExactCodePut" = some f) (hfn : Tryd.pinned.checked.prog.funcs[f]? = some fn) :
    Rows.fnExactCodePutCard.stood.looks = Tryd.pinned.checked.prog.looks [] ∧ ∀ (j : Nat) t, fn.params[j]? = some t → Tryd.pinned.checked.prog.wantsStandIn t = false := by
  obtain rfl : f = 3 := Option.some.inj ((show Tryd.prog.funcNamed "loop.example/ensemble/laws.FnExactCodePut" = some 3 by kernel_rfl).symm.trans hf) |>.symm
  obtain rfl : fn = Tryd.f3 := (Option.some.inj (Tryd.func3.symm.trans hfn)).symm
  refine ⟨by kernel_rfl, fun j t ht => ?_⟩
  rw [Tryd.params3] at ht
  obtain rfl : t = 22 := by simpa using Array.mem_of_getElem? ht
  exact (show Tryd.prog.wantsStandIn 22 = false by kernel_rfl)

/-- THE CARD. -/
theorem card : Rows.FnExactCodePutCardSaid :=
  Claim7.holds_tied_plain_at .later [] _ _ _ _ said (fun _ h => by cases h) (by kernel_rfl) (fun _ h => by cases h) fnExactCodePut_row_tie rfl ⟨rfl, rfl⟩ (by kernel_rfl) rfl plain (by kernel_rfl)
#print axioms card
end Go.Proofs.YtmbldcmmpbodgaaDoor
