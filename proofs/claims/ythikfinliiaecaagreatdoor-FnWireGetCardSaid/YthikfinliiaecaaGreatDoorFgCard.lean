/-
  Proved: for every code the law FnWireGet answers true: of a drawn text WireGet answers as the specification; what it reads is written back by WirePut as that very text, and no cell of it is out of the word's reach; what it does not read it answers by no cells, the empty word and false; the code reads afterwards as it read before. Conditions: none on the code; the library's tables, its two errors and the table of the words of kinds hold what the program's text lays in them (the card ties the listed variables to the program's text).
-/
import Derived.Test.YthikfinliiaecaaGreatDoorCards
import Derived.Test.YthikfinliiaecaaGreatDoorTie
import Derived.Test.YthikfinliiaecaaGreatDoorFgAll47
import Derived.Shelf.Vars
import Derived.LaidLaws
import Derived.WalkKit
import Derived.Lay
import Derived.LaidSub
import Derived.Lib.LaidTab
import Derived.ProofKit
import Derived.OpenShut
import Derived.Deep.DeepHandedRow
namespace Go.Proofs.YthikfinliiaecaaGreatDoor
open Go.ChangeShapes Go.WideShapes Go.ChangeAt Go.RowKit

theorem own : ownKnob Tryz.prog.godebug = none := by kernel_rfl
theorem laidOut : laidOutB Tryz.prog = true := by kernel_rfl
theorem gTab : Tryz.prog.globalNamed "internal/strconv.uint64pow10" = some 4 := by kernel_rfl
theorem gTabType : (Tryz.prog.globals[4]?).map (·.type) = some 149 := by kernel_rfl
theorem cellsTab : Tryz.prog.cellsOf 149 = 20 := by kernel_rfl
theorem cellsOne : Tryz.prog.cellsOf 137 = 1 := by kernel_rfl
theorem datum : (Rows.laid_internal_strconv_uint64pow10 : DataW Unit) = Lib.tabData .u64 Lib.pow10Tab := by kernel_rfl

/-- WHAT THE ROW's LIST GIVES: the table holds the powers. -/
theorem table {W : World} (h : laidMetH Tryz.prog Rows.fnWireGetRow.laid W) : PowTab W := by
  have h1 : laidMet Tryz.prog [("internal/strconv.uint64pow10", Rows.laid_internal_strconv_uint64pow10)] W := laidMetH.filter (fun x => x.1 == "internal/strconv.uint64pow10") h
  rw [datum] at h1
  exact Lib.tabIs_of_head gTab gTabType Tryz.underlying149 Tryz.underlying137 cellsOne cellsTab h1

theorem gKind : Tryz.prog.globalNamed "loop.example/ensemble/impl.cellWords" = some 0 := by kernel_rfl
theorem gKindType : (Tryz.prog.globals[0]?).map (·.type) = some 106 := by kernel_rfl
theorem cellsKind : Tryz.prog.cellsOf 106 = 5 := by kernel_rfl
theorem cellsStr : Tryz.prog.cellsOf 9 = 1 := by kernel_rfl
def kindWords : List ByteArray := [⟨#[112, 97, 105, 114]⟩, ⟨#[99, 111, 110, 115]⟩, ⟨#[101, 110, 118]⟩, ⟨#[102, 117, 110]⟩, ⟨#[114, 101, 99]⟩]
/-- WHAT THE ROW's LIST GIVES: the table of the words of kinds. -/
theorem kinds {W : World} (h : laidMetH Tryz.prog Rows.fnWireGetRow.laid W) : W.var? Tryz.prog "loop.example/ensemble/impl.cellWords" = some kindVals :=
  strs_of_head (zs := kindWords) (rest := []) gKind gKindType Tryz.underlying106 Tryz.underlying9 cellsStr cellsKind (laidMetH.filter (fun x => x.1 == "loop.example/ensemble/impl.cellWords") h)
theorem kinds_of_var {W : World} (h : W.var? Tryz.prog "loop.example/ensemble/impl.cellWords" = some kindVals) : CTab W := by
  simp only [World.var?, gKind, Option.bind_some] at h
  split at h
  · rename_i c t fr hb
    simp only [Option.some.injEq] at h
    subst h
    exact ⟨t, fr, hb⟩
  · cases h

theorem iface_head {P : Program} {W : World} {name nm : String} {d : DataW Unit} {rest : List (String × DataW Unit)} {g : Nat} {t : TypeId} {ms : Array (String × TypeId)} (hg : P.globalNamed name = some g) (hty : (P.globals[g]?).map (·.type) = some t) (ht : P.underlying t = some (.interface ms))
    (h : laidMet P ((name, .iface nm d) :: rest) W) : ∃ u v, W.cell? ⟨g, 0, none⟩ = some (.iface u v) := by
  obtain ⟨ps, ⟨g', t', cs, fuel, p, q, hg', ht', hvar, hd, _, _⟩, _⟩ := h
  obtain rfl := Option.some.inj (hg.symm.trans hg')
  obtain rfl := Option.some.inj (hty.symm.trans ht')
  obtain ⟨f', u, v, e, _⟩ := iface_of_trod ht hd
  refine ⟨u, v, ?_⟩
  rw [World.var?_cell hg hvar 0]
  have : cs.toList[0]? = some (.iface u v) := by rw [e]; rfl
  simpa using this
theorem gOdd : Tryz.prog.globalNamed "strconv.ErrSyntax" = some 2 := by kernel_rfl
theorem gOddType : (Tryz.prog.globals[2]?).map (·.type) = some 102 := by kernel_rfl
theorem gFar : Tryz.prog.globalNamed "strconv.ErrRange" = some 3 := by kernel_rfl
theorem gFarType : (Tryz.prog.globals[3]?).map (·.type) = some 102 := by kernel_rfl
/-- WHAT THE ROW's LIST AND THE WORLD's SHAPE GIVE of the library's variables. -/
theorem libs {W : World} (h : laidMetH Tryz.prog Rows.fnWireGetRow.laid W) (hs : W.ShapedOpen Tryz.prog) : RTab W := by
  obtain ⟨u1, v1, h1⟩ := iface_head (rest := []) gOdd gOddType Tryz.underlying102 (laidMetH.filter (fun x => x.1 == "strconv.ErrSyntax") h)
  obtain ⟨u2, v2, h2⟩ := iface_head (rest := []) gFar gFarType Tryz.underlying102 (laidMetH.filter (fun x => x.1 == "strconv.ErrRange") h)
  exact ⟨cell_of_shapedOpen_int (t := 3) (zero := #[.int .i64 0]) hs (of_decide_eq_true (by kernel_rfl)) (by kernel_rfl) rfl (by kernel_rfl) (by kernel_rfl) Tryz.underlying3, ⟨_, h1, Or.inr ⟨_, _, rfl⟩⟩, ⟨_, h2, Or.inr ⟨_, _, rfl⟩⟩⟩

set_option maxRecDepth 100000 in
theorem contract (H : Type) (enc : TypeId × Value → H) (W : World) (base : Nat) (args : Array Value) (ds gs : List (DataW H)) (before : List MemPlace)
    (hval : ∀ (j : Nat) t v, Tryz.f3.params[j]? = some t → args[j]? = some v → Value.okWide Tryz.prog W .any base t v)
    (hW : DataW.Whole enc Tryz.prog Tryz.f3.params.toList Rows.fnWireGetSpec.vars false W args.toList ds gs before) (hL : laidMetH Tryz.prog Rows.fnWireGetRow.laid W) (hsh : W.ShapedOpen Tryz.prog) :
    Calls Tryz.prog 3 args W fun e W' => ∃ v, e = .returned v ∧ Rows.fnWireGetSpec.post enc Tryz.prog Tryz.f3 false true false false W args v W' := by
  have hW' := hW
  obtain ⟨p, q, hA0, hV0, rfl, hfz, hnd⟩ := hW
  have hA : DataW.TrodAll enc Tryz.prog W 0 (fun _ => true) true Tryz.f3.params.toList args.toList ds p := hA0
  have hV : DataW.TrodVars enc Tryz.prog W (fun _ => true) ["loop.example/ensemble/impl.cellWords"] gs q := hV0
  rw [Tryz.params3] at hA hval
  obtain ⟨v0, vs0, d0, ds0, p0, q0, hargs, rfl, rfl, h0, r0⟩ := trodAll_cons hA
  obtain ⟨rfl, rfl, rfl⟩ := trodAll_nil r0
  obtain rfl : args = #[v0] := by cases args; simp_all
  obtain ⟨g, t, kc, fuel, dk, p', rfl, hg, ht, hvar, hd, rfl⟩ := trodVars_one hV
  obtain rfl := Option.some.inj (gKind.symm.trans hg)
  obtain rfl := Option.some.inj (gKindType.symm.trans ht)
  have h0k := h0
  obtain ⟨len, hbytes⟩ := open_code (hval 0 22 v0 rfl rfl) h0
  have hR := libs hL hsh
  have hT := table hL
  have hkv := kinds hL
  obtain rfl := Option.some.inj (hkv.symm.trans hvar)
  have hCT := kinds_of_var hkv
  clear hA0 hV0 hA hV
  have hlt0 : ∀ x ∈ p0, x.block < W.heap.size := fun x hx => hW'.lt x (List.mem_append_left _ (List.mem_append_left _ hx))
  have hltv : ∀ x ∈ p', x.block < W.heap.size := fun x hx => hW'.lt x (List.mem_append_right _ (List.mem_append_right _ hx))
  refine (law_FnWireGet len W v0 hbytes hT hCT hR).mono fun r W' ⟨he, hB⟩ => ?_
  subst he
  obtain ⟨fuel', hd'⟩ := Below.trod laidOut (by kernel_rfl) (of_decide_eq_true (by kernel_rfl)) (v := .agg kindVals) (⟨fuel, by simpa [Value.cells] using hd⟩ : DataW.Trod enc Tryz.prog W 0 (fun _ => true) true 106 (.agg kindVals) dk p') hB hltv
  have hv' := trodVars_mk1 (enc := enc) (spare := fun b => decide (b < W.heap.size)) hg ht (var?_below hB hg hCT.pos hvar) (by simpa [Value.cells] using hd')
  refine ⟨_, rfl, _, _, _, [], p0 ++ [], (MemPlace.row ⟨0, 0, none⟩ kindVals.size ++ p'), hW', ?_, ?_, ?_, hB.frame _, fun h => by cases h⟩
  · exact trodAll_mk1 (shut_bool Tryz.underlying4 _)
  · exact trodAll_cons_mk (Below.trod laidOut (by kernel_rfl) (of_decide_eq_true (by kernel_rfl)) h0k hB hlt0) trodAll_mk0
  · exact hv'

/-- A WORLD FOR THE WITNESS: the settled one, the table holding what its initialiser lays. -/
noncomputable def laidWorld (os : Os) : World := World.laidAll Tryz.prog os Rows.fnWireGetRow.laid
theorem laid_met (os : Os) : laidMet Tryz.prog Rows.fnWireGetRow.laid ((laidWorld os).forCall (fun _ _ => 0) ⟨#[], #[.slice none 0 0], []⟩).memory :=
  laidMet_laidAll _ (by kernel_rfl) (by kernel_rfl)
theorem reads (os : Os) {H : Type} (enc : TypeId × Value → H) : ∃ places, DataW.whole enc Tryz.prog ((laidWorld os).forCall (fun _ _ => 0) ⟨#[], #[.slice none 0 0], []⟩).memory Tryz.f3.params.toList Rows.fnWireGetSpec.vars false #[.slice none 0 0].toList 8 = some ([.nil], [Rows.laid_loop_example_ensemble_impl_cellWords], places) :=
  ⟨MemPlace.row ⟨0, 0, none⟩ 5, by kernel_rfl⟩

set_option maxRecDepth 100000 in
theorem lifted (os : Os) (started : os.Started) (H : Type) (enc : TypeId × Value → H) (F : Stop.Interp) :
    ReturnsInHanded {} Tryz.checked os 3 .any ((OpenSpec.ofChange Rows.fnWireGetSpec).preRow enc Tryz.prog Tryz.f3 Rows.fnWireGetRow.domain false Rows.fnWireGetRow.laid) (((OpenSpec.ofChange Rows.fnWireGetSpec).at F).post enc Tryz.prog Tryz.f3 false true false false) := by
  obtain ⟨places, hx⟩ := reads os enc
  refine returnsInHanded_of_row (C := Tryz.checked) (s := OpenSpec.ofChange Rows.fnWireGetSpec) own started (by kernel_rfl) Tryz.func3
    (witness_row_at (enc := enc) (C := Tryz.checked) false (laidWorld os) #[.slice none 0 0] (World.laidAll_os _ _ _) (by kernel_rfl) (by kernel_rfl) (by kernel_rfl)
      (OpenSpec.preRow_of_cond 8 hx (by kernel_rfl) (fun k hk => by cases hk) (by kernel_rfl) (laid_met os))) ?_
  intro W base args ds gs before hval hW _ _ _ hL hsh _
  exact contract H enc W base args ds gs before hval hW hL hsh

theorem said : Rows.FnWireGetSaid :=
  OpenClaim.holds_of_cond 3 Tryz.f3 rfl rfl rfl rfl rfl rfl rfl ⟨rfl, rfl, rfl, rfl, rfl⟩ rfl rfl rfl rfl rfl (by kernel_rfl) Tryz.func3 (by kernel_rfl)
    (of_decide_eq_true (by kernel_rfl)) (by unfold Func.isWrapper; first | (rw [if_pos (by decide +kernel)]; kernel_rfl) | (rw [if_neg (by decide +kernel)]; exact ⟨rfl, rfl⟩))
    (fun os started H enc _ F => by rw [OpenClaim.pre_eq_preRow]; exact lifted os started H enc F)

/-- No parameter wants a stand-in; the program's own looks: what the card asks. -/
theorem plain (f : FuncId) (fn : Func) (hf : Tryz.pinned.checked.prog.funcNamed "loop.example/ensemble/laws.FnWireGet" = some f) (hfn : Tryz.pinned.checked.prog.funcs[f]? = some fn) :
    Rows.fnWireGetCard.stood.looks = Tryz.pinned.checked.prog.looks [] ∧ ∀ (j : Nat) t, fn.params[j]? = some t → Tryz.pinned.checked.prog.wantsStandIn t = false := by
  obtain rfl : f = 3 := Option.some.inj ((show Tryz.prog.funcNamed "loop.example/ensemble/laws.FnWireGet" = some 3 by kernel_rfl).symm.trans hf) |>.symm
  obtain rfl : fn = Tryz.f3 := (Option.some.inj (Tryz.func3.symm.trans hfn)).symm
  refine ⟨by kernel_rfl, fun j t ht => ?_⟩
  rw [Tryz.params3] at ht
  obtain rfl : t = 22 := by simpa using Array.mem_of_getElem? ht
  exact (show Tryz.prog.wantsStandIn 22 = false by kernel_rfl)

/-- THE CARD. -/
theorem card : Rows.FnWireGetCardSaid :=
  Claim7.holds_tied_plain_at .later [] _ _ _ _ said (fun _ h => by cases h) (by kernel_rfl) (fun _ h => by cases h) fnWireGet_row_tie rfl ⟨rfl, rfl⟩ (by kernel_rfl) rfl plain (by kernel_rfl)
#print axioms card
end Go.Proofs.YthikfinliiaecaaGreatDoor

