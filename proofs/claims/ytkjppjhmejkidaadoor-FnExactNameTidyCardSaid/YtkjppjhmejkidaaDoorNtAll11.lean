/-
  The program's tidyUnder.
  The program's tidyUnder, of what has parts.
-/
import Derived.Test.YtkjppjhmejkidaaDoorNtAll10
namespace Go.Proofs.YtkjppjhmejkidaaDoor
open Go.RowKit Go.Maps Go.WideMaps

/-- What tidyUnder does with an expression. -/
def ImplTidy (ns : List ByteArray) (e : Ex) : Prop := ∀ (w : World) (s v vn : Value) (l : List ByteArray) (d : Int), e.Wee → Lies w (· < w.heap.size) e.kids s → Env w l v → Env w ns vn → sizeM e d ≤ 60 → 1 ≤ d → (l.length : Int) ≤ 2 * (d - 1) →
  Calls Tryd.prog 17 #[e.val s, v, vn] w fun r w' => MadeE w w' (tidyM ns e l) r

theorem bared_some {w w' : World} {e : Ex} {r : Ending} (h : Bared w w' e r) (h0 : 0 < e.kids.length) : ∃ nb, r = .returned (e.val (.slice (some ⟨nb, 0, none⟩) e.kids.length e.kids.length)) ∧ w.heap.size ≤ nb ∧ nb < w'.heap.size ∧ w'.there nb 0 (e.kids.length * 5) ∧ Below w.heap.size w w' := by
  obtain ⟨v', rfl, hb, ⟨h1, _⟩ | ⟨g, rfl, h1, h2, h3⟩⟩ := h
  · omega
  · exact ⟨g, rfl, h1, h2, h3, hb⟩
theorem bared_none {w w' : World} {e : Ex} {r : Ending} (h : Bared w w' e r) (h0 : e.kids.length = 0) : ∃ a c, r = .returned (e.val (.slice a 0 c)) ∧ Below w.heap.size w w' := by
  obtain ⟨v', rfl, hb, ⟨_, rfl⟩ | ⟨g, rfl, _⟩⟩ := h
  · exact ⟨_, _, rfl, hb⟩
  · exact ⟨_, _, by rw [h0], hb⟩
theorem box_first {w wb : World} {a b c d x : Value} {t : TypeId} {o2 : Obj} (h : Below ((w.alloc (.cells #[a, b, c, d, x] t)).alloc o2).heap.size ((w.alloc (.cells #[a, b, c, d, x] t)).alloc o2) wb) :
    wb.cell? ⟨w.heap.size, 0, none⟩ = some a ∧ wb.cell? ⟨w.heap.size, 1, none⟩ = some b ∧ wb.cell? ⟨w.heap.size, 2, none⟩ = some c ∧ wb.cell? ⟨w.heap.size, 3, none⟩ = some d ∧ wb.cell? ⟨w.heap.size, 4, none⟩ = some x :=
  box5 (((Below.refl _ _).alloc (by simp) o2).trans (h.mono (by simp)))
/-- A box that was laid second can be written in every later world. -/
theorem box_second {w wb : World} {o1 : Obj} {a b c d x : Value} {t : TypeId} (h : Below ((w.alloc o1).alloc (.cells #[a, b, c, d, x] t)).heap.size ((w.alloc o1).alloc (.cells #[a, b, c, d, x] t)) wb) :
    (wb.cell? ⟨w.heap.size + 1, 0, none⟩ = some a ∧ wb.cell? ⟨w.heap.size + 1, 1, none⟩ = some b ∧ wb.cell? ⟨w.heap.size + 1, 2, none⟩ = some c ∧ wb.cell? ⟨w.heap.size + 1, 3, none⟩ = some d ∧ wb.cell? ⟨w.heap.size + 1, 4, none⟩ = some x) ∧ ∀ j, wb.frozen? ⟨w.heap.size + 1, j, none⟩ = false := by
  have hb : ((w.alloc o1).alloc (.cells #[a, b, c, d, x] t)).heap[w.heap.size + 1]? = some (.cells #[a, b, c, d, x] t) := by simpa using heap_alloc_new (w.alloc o1) (.cells #[a, b, c, d, x] t)
  have hs := h.block (w.heap.size + 1) (by simp)
  constructor
  · have key : ∀ j, wb.cell? ⟨w.heap.size + 1, j, none⟩ = (#[a, b, c, d, x] : Array Value)[j]? := fun j => by
      rw [World.cell?_of_block (w := (w.alloc o1).alloc (.cells #[a, b, c, d, x] t)) hs, cell_of_row _ _ _ _ _ _ hb]
    exact ⟨key 0, key 1, key 2, key 3, key 4⟩
  · intro j
    rw [World.frozen?_of_block (w := (w.alloc o1).alloc (.cells #[a, b, c, d, x] t)) hs]
    unfold World.frozen?
    rw [hb]
    simp
theorem froz_al {w : World} {g : Nat} (h : ∀ j, w.frozen? ⟨g, j, none⟩ = false) (hg : g < w.heap.size) {w' : World} (hb : Below w.heap.size w w') : ∀ j, w'.frozen? ⟨g, j, none⟩ = false := fun j => by
  rw [hb.frozen hg]; exact h j
theorem five_al {w : World} {g : Nat} {a b c d x : Value} (h : w.cell? ⟨g, 0, none⟩ = some a ∧ w.cell? ⟨g, 1, none⟩ = some b ∧ w.cell? ⟨g, 2, none⟩ = some c ∧ w.cell? ⟨g, 3, none⟩ = some d ∧ w.cell? ⟨g, 4, none⟩ = some x) (hg : g < w.heap.size) {w' : World} (hb : Below w.heap.size w w') :
    w'.cell? ⟨g, 0, none⟩ = some a ∧ w'.cell? ⟨g, 1, none⟩ = some b ∧ w'.cell? ⟨g, 2, none⟩ = some c ∧ w'.cell? ⟨g, 3, none⟩ = some d ∧ w'.cell? ⟨g, 4, none⟩ = some x := by
  rw [hb.cell hg, hb.cell hg, hb.cell hg, hb.cell hg, hb.cell hg]; exact h
theorem there5 {w : World} {b o : Nat} (h : w.there b o 5) : (∃ z, w.cell? ⟨b, o, none⟩ = some z) ∧ (∃ z, w.cell? ⟨b, o + 1, none⟩ = some z) ∧ (∃ z, w.cell? ⟨b, o + 2, none⟩ = some z) ∧ (∃ z, w.cell? ⟨b, o + 3, none⟩ = some z) ∧ (∃ z, w.cell? ⟨b, o + 4, none⟩ = some z) ∧
    w.frozen? ⟨b, o, none⟩ = false ∧ w.frozen? ⟨b, o + 1, none⟩ = false ∧ w.frozen? ⟨b, o + 2, none⟩ = false ∧ w.frozen? ⟨b, o + 3, none⟩ = false ∧ w.frozen? ⟨b, o + 4, none⟩ = false :=
  ⟨Option.isSome_iff_exists.1 (h 0 (by omega)).1, Option.isSome_iff_exists.1 (h 1 (by omega)).1, Option.isSome_iff_exists.1 (h 2 (by omega)).1, Option.isSome_iff_exists.1 (h 3 (by omega)).1, Option.isSome_iff_exists.1 (h 4 (by omega)).1,
    (h 0 (by omega)).2, (h 1 (by omega)).2, (h 2 (by omega)).2, (h 3 (by omega)).2, (h 4 (by omega)).2⟩
theorem but5 (w : World) (nb o : Nat) (a b c d x : Value) : w.grownBy (((((w.setCell ⟨nb, o, none⟩ a).setCell ⟨nb, o + 1, none⟩ b).setCell ⟨nb, o + 2, none⟩ c).setCell ⟨nb, o + 3, none⟩ d).setCell ⟨nb, o + 4, none⟩ x) (some nb) := but_set w nb o [a, b, c, d, x]
/-- The world in which an expression's five cells were written. -/
abbrev put5 (w : World) (nb o : Nat) (e : Ex) (s : Value) : World := ((((w.setCell ⟨nb, o, none⟩ (.int .i64 e.kind)).setCell ⟨nb, o + 1, none⟩ (.string e.name)).setCell ⟨nb, o + 2, none⟩ (.string e.tail)).setCell ⟨nb, o + 3, none⟩ (.int .i64 e.num)).setCell ⟨nb, o + 4, none⟩ s
theorem put5_eq (w : World) (nb o : Nat) (e : Ex) (s : Value) : put5 w nb o e s = w.setCells nb o (e.cells s) := rfl
theorem Grow.next5 {w w2 : World} {nb lo : Nat} {es : List Ex} {s : Value} {k : Nat} {ek : Ex} (h : Grow w nb es k) (hlt : k < es.length) (hek : es[k] = ek) (hb : Below w.heap.size w w2) (hth : w2.there nb (k * 5) 5) (hlo : w.heap.size ≤ lo)
    (hs : Tree w2 lo w2.heap.size ek.kids s) : Grow (put5 w2 nb (k * 5) ek s) nb es (k + 1) := by
  subst hek
  rw [put5_eq]
  exact h.next hlt hb hth hlo hs
theorem there_put5 {w : World} {nb n : Nat} (h : w.there nb 0 n) (o : Nat) (e : Ex) (s : Value) : (put5 w nb o e s).there nb 0 n := by
  rw [put5_eq]; exact World.there_setCells h _ _ _
theorem there_but {w w' : World} {b n : Nat} (h : w.there b 0 n) (hb : Below w.heap.size w w') (hlt : b < w.heap.size) : w'.there b 0 n := there_same (hb.block b hlt) h
theorem tree_nil {w : World} {lo hi : Nat} {es : List Ex} (h : es.length = 0) (a : Option Addr) (c : Nat) : Tree w lo hi es (.slice a 0 c) := by
  obtain rfl := List.length_eq_zero_iff.1 h
  exact .none _ _ _ _
theorem getD_of (ns : List ByteArray) (j : Nat) (h : j < ns.length) : ns.getD j ⟨#[]⟩ = ns[j] := by simp [List.getD, h]

set_option maxRecDepth 100000 in
set_option maxHeartbeats 1000000 in
theorem tidy_free (ns : List ByteArray) (hns : ns.length = 28) (e : Ex) (h0 : e.kids.length = 0) (h3 : e.kind = 3) : ImplTidy ns e := by
  intro w s v vn l d hw hv hl hn hsz hd1 hld
  obtain ⟨hd14, hkl, hbare⟩ := ok_has e d hsz
  obtain ⟨a, cap, rfl⟩ := hv.slice
  obtain ⟨gn, capn, rfl, hgn, hnc⟩ := names_open hn (by omega)
  have hl' := fun (w' : World) hw' => impl_lastPlace l e.name v w' (by omega) (hl.keep hw')
  have hbc := fun w => impl_bareCopy e a cap w (by omega)
  have hl28 : l.length ≤ 26 := by omega
  have ht0 : e.tail.toList = [] := bare_tail0 _ _ _ _ hbare (by omega)
  have h3' : (e.kind == 3) = true := by simpa using h3
  have hbi : binderB e.kind = false := by rw [h3]; rfl
  by_cases hge : 0 ≤ lastTo l e.name l.length
  · have hbd := lastTo_bd l e.name l.length
    obtain ⟨p, hp⟩ : ∃ p : Nat, lastTo l e.name l.length = (p : Int) := ⟨(lastTo l e.name l.length).toNat, by omega⟩
    have hp28 : p < ns.length := by omega
    obtain ⟨nm, hnm⟩ : ∃ x, x = ns[p] := ⟨_, rfl⟩
    have HT : Hid (tidyM ns e l = .mk e.kind nm e.tail e.num []) := by
      show _ = _
      rw [tidyM_eq, newName, if_pos h3, if_pos (by omega), newTail, if_neg (by omega), List.length_eq_zero_iff.1 ((tidyKids_length ns e l).trans h0), hp, Int.toNat_natCast, getD_of ns p hp28, hnm]
    have hcn := hnc p hp28
    rw [← hnm] at hcn
    rw [hp] at hl'
    have hpi : (p : Int) < (ns.length : Int) := by omega
    clear hbd hp hnm hnc h3
    rw [h0] at hbc ⊢
    clear hsz hkl hbare hd14
    go_enter Tryd.func17, Tryd.ntmps17
    go_wp2_with (first
      | (go_at_call 30; refine (hbc _).mono ?_; intro r wb hbb; obtain ⟨ab, cb, rfl, hbB⟩ := bared_none hbb h0; have hbw : Below w.heap.size w wb := below_next (below_two w _ _) hbB; have hz := hbB.size; simp at hz; have hzz : w.heap.size < wb.heap.size := (by omega); have hz1 : w.heap.size + 1 < wb.heap.size := (by omega); obtain ⟨p0, p1, p2, p3, p4⟩ := box_first hbB; obtain ⟨⟨q0, q1, q2, q3, q4⟩, qf⟩ := box_second hbB; have hgb : gn < wb.heap.size := (by omega); have hcn2 : wb.cell? ⟨gn, p, none⟩ = some (.string nm) := (by rw [hbw.cell hgn]; exact hcn); clear hbb)
      | (go_at_call 31; refine (hl' _ (below_al hbw)).mono ?_; rintro r w2 ⟨rfl, rfl⟩)
      | (go_at_call 32; refine (impl_binds _ _ _ _ _ _).mono ?_; rintro r w3 ⟨rfl, rfl⟩; rw [hbi]))
    go_loopw [48] (fun i wr => i = .int .i64 0 ∧ wr = (wb.alloc (.cells #[.int .i64 e.kind, .string nm, .string e.tail, .int .i64 e.num, .slice ab 0 cb] 28)).alloc (.cells #[.int .i64 e.kind, .string e.name, .string e.tail, .int .i64 e.num, .slice a 0 cap] 28)) (fun _ _ => 0)
    case atStart => exact ⟨rfl, rfl⟩
    case round =>
      obtain ⟨rfl, rfl⟩ := hrel
      go_wp2_with fail
      refine bodyPost_ret (v := .agg #[.int .i64 e.kind, .string nm, .string e.tail, .int .i64 e.num, .slice ab 0 cb]) (by simp [results, Tryd.results17, go_sem, hz1, hzz, q0, q1, q2, q3, q4]) rfl ⟨.slice ab 0 cb, by rw [HT.out]; rfl, by rw [HT.out]; exact tree_nil rfl _ _, ?_⟩
      clear p0 p1 p2 p3 p4 q0 q1 q2 q3 q4 qf
      refine below_al (below_al ?_)
      repeat (refine Below.setCell ?_ (by dsimp only; omega) _)
      exact hbw
  · have HT : Hid (tidyM ns e l = .mk e.kind e.name e.tail e.num []) := by
      show _ = _
      rw [tidyM_eq, newName, if_pos h3, if_neg hge, newTail, if_neg (by omega), List.length_eq_zero_iff.1 ((tidyKids_length ns e l).trans h0)]
    have hlt : lastTo l e.name l.length < 0 := by omega
    clear h3
    rw [h0] at hbc ⊢
    clear hsz hkl hbare hd14
    go_enter Tryd.func17, Tryd.ntmps17
    go_wp2_with (first
      | (go_at_call 30; refine (hbc _).mono ?_; intro r wb hbb; obtain ⟨ab, cb, rfl, hbB⟩ := bared_none hbb h0; have hbw : Below w.heap.size w wb := below_next (below_two w _ _) hbB; have hz := hbB.size; simp at hz; have hzz : w.heap.size < wb.heap.size := (by omega); have hz1 : w.heap.size + 1 < wb.heap.size := (by omega); obtain ⟨p0, p1, p2, p3, p4⟩ := box_first hbB; obtain ⟨⟨q0, q1, q2, q3, q4⟩, qf⟩ := box_second hbB; have hgb : gn < wb.heap.size := (by omega); clear hbb)
      | (go_at_call 31; refine (hl' _ (below_al hbw)).mono ?_; rintro r w2 ⟨rfl, rfl⟩)
      | (go_at_call 32; refine (impl_binds _ _ _ _ _ _).mono ?_; rintro r w3 ⟨rfl, rfl⟩; rw [hbi]))
    go_loopw [48] (fun i wr => i = .int .i64 0 ∧ wr = (wb.alloc (.cells #[.int .i64 e.kind, .string e.name, .string e.tail, .int .i64 e.num, .slice ab 0 cb] 28)).alloc (.cells #[.int .i64 e.kind, .string e.name, .string e.tail, .int .i64 e.num, .slice a 0 cap] 28)) (fun _ _ => 0)
    case atStart => exact ⟨rfl, rfl⟩
    case round =>
      obtain ⟨rfl, rfl⟩ := hrel
      go_wp2_with fail
      refine bodyPost_ret (v := .agg #[.int .i64 e.kind, .string e.name, .string e.tail, .int .i64 e.num, .slice ab 0 cb]) (by simp [results, Tryd.results17, go_sem, hz1, hzz, q0, q1, q2, q3, q4]) rfl ⟨.slice ab 0 cb, by rw [HT.out]; rfl, by rw [HT.out]; exact tree_nil rfl _ _, ?_⟩
      clear p0 p1 p2 p3 p4 q0 q1 q2 q3 q4 qf
      refine below_al (below_al ?_)
      repeat (refine Below.setCell ?_ (by dsimp only; omega) _)
      exact hbw

set_option maxRecDepth 100000 in
set_option maxHeartbeats 1000000 in
theorem tidy_plain (ns : List ByteArray) (hns : ns.length = 28) (e : Ex) (h0 : e.kids.length = 0) (h3 : e.kind ≠ 3) : ImplTidy ns e := by
  intro w s v vn l d hw hv hl hn hsz hd1 hld
  obtain ⟨hd14, hkl, hbare⟩ := ok_has e d hsz
  obtain ⟨a, cap, rfl⟩ := hv.slice
  obtain ⟨gn, capn, rfl, hgn, hnc⟩ := names_open hn (by omega)
  have hl' := fun (w' : World) hw' => impl_lastPlace l e.name v w' (by omega) (hl.keep hw')
  have hbc := fun w => impl_bareCopy e a cap w (by omega)
  have hl28 : l.length ≤ 26 := by omega
  have hnb : ¬ (e.kind = 4 ∨ e.kind = 6 ∨ e.kind = 7 ∨ e.kind = 14) := fun hk => by have := kids_some _ _ hkl hk; omega
  have ht0 : e.tail.toList = [] := bare_tail0 _ _ _ _ hbare (by omega)
  have h3' : (e.kind == 3) = false := by simpa using h3
  have hbi : binderB e.kind = false := by rw [binderB, decide_eq_false_iff_not]; exact hnb
  have HT : Hid (tidyM ns e l = .mk e.kind e.name e.tail e.num []) := by
    show _ = _
    rw [tidyM_eq, newName, if_neg h3, if_neg hnb, newTail, if_neg (by omega), List.length_eq_zero_iff.1 ((tidyKids_length ns e l).trans h0)]
  clear hnb hl' h3
  rw [h0] at hbc ⊢
  clear hsz hkl hbare hd14
  go_enter Tryd.func17, Tryd.ntmps17
  go_wp2_with (first
    | (go_at_call 30; refine (hbc _).mono ?_; intro r wb hbb; obtain ⟨ab, cb, rfl, hbB⟩ := bared_none hbb h0; have hbw : Below w.heap.size w wb := below_next (below_two w _ _) hbB; have hz := hbB.size; simp at hz; have hzz : w.heap.size < wb.heap.size := (by omega); have hz1 : w.heap.size + 1 < wb.heap.size := (by omega); obtain ⟨p0, p1, p2, p3, p4⟩ := box_first hbB; obtain ⟨⟨q0, q1, q2, q3, q4⟩, qf⟩ := box_second hbB; have hgb : gn < wb.heap.size := (by omega); clear hbb)
    | (go_at_call 32; refine (impl_binds _ _ _ _ _ _).mono ?_; rintro r w3 ⟨rfl, rfl⟩; rw [hbi]))
  go_loopw [48] (fun i wr => i = .int .i64 0 ∧ wr = (wb.alloc (.cells #[.int .i64 e.kind, .string e.name, .string e.tail, .int .i64 e.num, .slice ab 0 cb] 28)).alloc (.cells #[.int .i64 e.kind, .string e.name, .string e.tail, .int .i64 e.num, .slice a 0 cap] 28)) (fun _ _ => 0)
  case atStart => exact ⟨rfl, rfl⟩
  case round =>
    obtain ⟨rfl, rfl⟩ := hrel
    go_wp2_with fail
    refine bodyPost_ret (v := .agg #[.int .i64 e.kind, .string e.name, .string e.tail, .int .i64 e.num, .slice ab 0 cb]) (by simp [results, Tryd.results17, go_sem, hz1, hzz, q0, q1, q2, q3, q4]) rfl ⟨.slice ab 0 cb, by rw [HT.out]; rfl, by rw [HT.out]; exact tree_nil rfl _ _, ?_⟩
    clear p0 p1 p2 p3 p4 q0 q1 q2 q3 q4 qf
    refine below_al (below_al ?_)
    repeat (refine Below.setCell ?_ (by dsimp only; omega) _)
    exact hbw
end Go.Proofs.YtkjppjhmejkidaaDoor

namespace Go.Proofs.YtkjppjhmejkidaaDoor
open Go.RowKit Go.Maps Go.WideMaps

set_option maxRecDepth 100000 in
set_option maxHeartbeats 2000000 in
theorem tidy_two (ns : List ByteArray) (hns : ns.length = 28) (e : Ex) (ih : ∀ x ∈ e.kids, ImplTidy ns x) (h0 : 0 < e.kids.length) (hk : e.kind = 7 ∨ e.kind = 14) : ImplTidy ns e := by
  intro w s v vn l d hw hv hl hn hsz hd1 hld
  obtain ⟨hd14, hkl, hbare⟩ := ok_has e d hsz
  have hparts := (sizeM_parts e d hsz).2
  obtain ⟨_, hkw, hw'⟩ := hw
  have hd13 : d + 1 ≤ 14 := (sizeM_parts e.kids[0] (d + 1) (hparts _ (List.getElem_mem h0))).1
  have hl24 : l.length ≤ 24 := by omega
  obtain ⟨al, capl, rfl, _⟩ := hl.open
  obtain ⟨a, cap, rfl⟩ := hv.slice
  obtain ⟨gn, capn, rfl, hgn, hnc⟩ := names_open hn (by omega)
  have h3' : (e.kind == 3) = false := by simp; intro h; have := kids_none _ _ hkl h; omega
  have hbc := fun w => impl_bareCopy e a cap w hkw
  have hib : (l.length : Int) < 28 := by omega
  have hib1 : (l.length : Int) + 1 < 28 := by omega
  rw [hns] at hn ⊢
  have ht0 : e.tail.toList.isEmpty = false := by have := bare_tail2 _ _ _ _ hbare hk; simpa using this
  have hbi : binderB e.kind = true := by rw [binderB, decide_eq_true_iff]; omega
  obtain ⟨nm, hnm⟩ : ∃ x, x = ns[l.length] := ⟨_, rfl⟩
  obtain ⟨tl, htl⟩ : ∃ x, x = ns[l.length + 1] := ⟨_, rfl⟩
  have HT : Hid (tidyM ns e l = .mk e.kind nm tl e.num (tidyKids ns e l)) := by
    show _ = _
    rw [tidyM_eq, newName, if_neg (by omega), if_pos (by omega), newTail, if_pos hk, getD_of ns l.length (by omega), getD_of ns (l.length + 1) (by omega), hnm, htl]
  have hcn := hnc l.length (by omega)
  have hct := hnc (l.length + 1) (by omega)
  rw [← hnm] at hcn
  rw [← htl] at hct
  clear hnm htl hk
  obtain ⟨es, hes⟩ : ∃ es, es = tidyKids ns e l := ⟨_, rfl⟩
  rw [← hes] at HT
  have hel : es.length = e.kids.length := by rw [hes]; exact tidyKids_length ns e l
  have HG : Hid (∀ (k : Nat) (h : k < e.kids.length) (h' : k < es.length), es[k] = tidyM ns e.kids[k] (l ++ e.bindsAt k)) := by
    subst hes; exact fun k h h' => tidyKids_get ns e l k h h'
  clear hes hkl hbare hnc hsz hns
  go_enter Tryd.func17, Tryd.ntmps17
  go_wp2_with (first
    | (go_at_call 30; refine (hbc _).mono ?_; intro r wb hbb; obtain ⟨nb, rfl, hnb1, hnb2, hth0, hbB⟩ := bared_some hbb h0; have hbw : Below w.heap.size w wb := below_next (below_two w _ _) hbB; have hz := hbB.size; simp at hz hnb1; have hzz : w.heap.size < wb.heap.size := (by omega); have hz1 : w.heap.size + 1 < wb.heap.size := (by omega); obtain ⟨p0, p1, p2, p3, p4⟩ := box_first hbB; obtain ⟨⟨q0, q1, q2, q3, q4⟩, qf⟩ := box_second hbB; have hgb : gn < wb.heap.size := (by omega); have hcn2 : wb.cell? ⟨gn, l.length, none⟩ = some (.string nm) := (by rw [hbw.cell hgn]; exact hcn); have hct2 : wb.cell? ⟨gn, l.length + 1, none⟩ = some (.string tl) := (by rw [hbw.cell hgn]; exact hct); clear hbb)
    | (go_at_call 32; refine (impl_binds _ _ _ _ _ _).mono ?_; rintro r w3 ⟨rfl, rfl⟩; rw [hbi]))
  go_loopw [48] (fun i wr => ∃ k : Nat, k ≤ e.kids.length ∧ i = .int .i64 k ∧ Grow wr nb es k ∧ wr.there nb 0 (e.kids.length * 5) ∧ (wb.alloc (.cells #[.int .i64 e.kind, .string nm, .string tl, .int .i64 e.num, .slice (some ⟨nb, 0, none⟩) e.kids.length e.kids.length] 28)).grownBy wr (some nb)) (fun i _ => e.kids.length - (intOf i).toNat)
  case atStart => exact ⟨0, by omega, rfl, Grow.start es (by simp; omega), there_but hth0 (below_al (below_al0 _ _)) hnb2, World.grownBy_alloc _ _ _⟩
  case round =>
    obtain ⟨k, hkl, rfl, hGr, hth, hG⟩ := hrel
    obtain ⟨t0, t1, t2, t3, t4⟩ := box5_but hG (by omega)
    have hGb := (World.grownBy_alloc wb (.cells #[.int .i64 e.kind, .string nm, .string tl, .int .i64 e.num, .slice (some ⟨nb, 0, none⟩) e.kids.length e.kids.length] 28) (some nb)).trans hG
    have hzb := hGb.size
    have hgz := hG.size
    simp at hgz
    have hfar : ∀ x j, x < wb.heap.size → x ≠ nb → wr.cell? ⟨x, j, none⟩ = wb.cell? ⟨x, j, none⟩ := fun x j h1 h2 => hGb.cell_far ⟨x, j, none⟩ h1 (by simpa using h2)
    have hfroz : ∀ x j, x < wb.heap.size → x ≠ nb → wr.frozen? ⟨x, j, none⟩ = wb.frozen? ⟨x, j, none⟩ := fun x j h1 h2 => hGb.frozen_far ⟨x, j, none⟩ h1 (by simpa using h2)
    have hBw : Below w.heap.size w wr := hbw.trans ⟨hGb.os, hGb.tape, hGb.output, hGb.size, fun x hx => hGb.block x (by omega) (by simp; omega)⟩
    by_cases hlt : k < e.kids.length
    · have hke : k < es.length := by omega
      obtain ⟨b, off, cap', s1, hS, hsl, hr, hlk⟩ := hv.at (List.getElem?_eq_getElem hlt)
      obtain ⟨rfl, rfl⟩ : a = some ⟨b, off, none⟩ ∧ cap = cap' := by simpa using hsl
      obtain ⟨c0, c1, c2, c3, c4⟩ := Ex.five (rangeAt_same (hBw.block b hS) hr)
      obtain ⟨a2, cap2, rfl⟩ := hlk.slice
      have r0 := (hfar w.heap.size 0 hzz (by omega)).trans p0
      have r1 := (hfar w.heap.size 1 hzz (by omega)).trans p1
      have r2 := (hfar w.heap.size 2 hzz (by omega)).trans p2
      have r3 := (hfar w.heap.size 3 hzz (by omega)).trans p3
      have r4 := (hfar w.heap.size 4 hzz (by omega)).trans p4
      have HE := HG.out k hlt hke
      have hGs : wr.heap.size = wr.heap.size := rfl
      have HS : ∀ w', (wr.alloc (.cells #[.int .i64 e.kids[k].kind, .string e.kids[k].name, .string e.kids[k].tail, .int .i64 e.kids[k].num, .slice a2 e.kids[k].kids.length cap2] 28)).grownBy w' (some nb) → (w'.cell? ⟨w.heap.size, 0, none⟩ = some (.int .i64 e.kind) ∧ w'.cell? ⟨w.heap.size, 1, none⟩ = some (.string e.name) ∧ w'.cell? ⟨w.heap.size, 2, none⟩ = some (.string e.tail) ∧ w'.cell? ⟨w.heap.size, 3, none⟩ = some (.int .i64 e.num) ∧ w'.cell? ⟨w.heap.size, 4, none⟩ = some (.slice (some ⟨b, off, none⟩) e.kids.length cap) ∧ w'.cell? ⟨wr.heap.size, 0, none⟩ = some (.int .i64 e.kids[k].kind) ∧ w'.cell? ⟨wr.heap.size, 1, none⟩ = some (.string e.kids[k].name) ∧ w'.cell? ⟨wr.heap.size, 2, none⟩ = some (.string e.kids[k].tail) ∧ w'.cell? ⟨wr.heap.size, 3, none⟩ = some (.int .i64 e.kids[k].num) ∧ w'.cell? ⟨wr.heap.size, 4, none⟩ = some (.slice a2 e.kids[k].kids.length cap2) ∧ w'.cell? ⟨wb.heap.size, 4, none⟩ = some (.slice (some ⟨nb, 0, none⟩) e.kids.length e.kids.length)) := fun w' hg' => by
        obtain ⟨y0, y1, y2, y3, y4⟩ := box5_but hg' (by omega)
        have hg2 := (World.grownBy_alloc wr (.cells #[.int .i64 e.kids[k].kind, .string e.kids[k].name, .string e.kids[k].tail, .int .i64 e.kids[k].num, .slice a2 e.kids[k].kids.length cap2] 28) (some nb)).trans hg'
        have hf2 : ∀ x j, x < wr.heap.size → x ≠ nb → w'.cell? ⟨x, j, none⟩ = wr.cell? ⟨x, j, none⟩ := fun x j h1 h2 => hg2.cell_far ⟨x, j, none⟩ h1 (by simpa using h2)
        exact ⟨(hf2 _ 0 (by omega) (by omega)).trans r0, (hf2 _ 1 (by omega) (by omega)).trans r1, (hf2 _ 2 (by omega) (by omega)).trans r2, (hf2 _ 3 (by omega) (by omega)).trans r3, (hf2 _ 4 (by omega) (by omega)).trans r4, y0, y1, y2, y3, y4, (hf2 _ 4 (by omega) (by omega)).trans t4⟩
      have hd1 : (wr.alloc (.cells #[.int .i64 e.kids[k].kind, .string e.kids[k].name, .string e.kids[k].tail, .int .i64 e.kids[k].num, .slice a2 e.kids[k].kids.length cap2] 28)).grownBy (wr.alloc (.cells #[.int .i64 e.kids[k].kind, .string e.kids[k].name, .string e.kids[k].tail, .int .i64 e.kids[k].num, .slice a2 e.kids[k].kids.length cap2] 28)).drew (some nb) := ⟨rfl, rfl, rfl, Nat.le_refl _, fun _ _ _ => rfl⟩
      have hBX : Below wr.heap.size wr (wr.alloc (.cells #[.int .i64 e.kids[k].kind, .string e.kids[k].name, .string e.kids[k].tail, .int .i64 e.kids[k].num, .slice a2 e.kids[k].kids.length cap2] 28)).drew := (below_al0 _ _).drew
      have hBY : Below w.heap.size w (wr.alloc (.cells #[.int .i64 e.kids[k].kind, .string e.kids[k].name, .string e.kids[k].tail, .int .i64 e.kids[k].num, .slice a2 e.kids[k].kids.length cap2] 28)).drew := below_next hBw hBX
      have hih := ih e.kids[k] (List.getElem_mem hlt)
      have hwk := hw' e.kids[k] (List.getElem_mem hlt)
      have hsk := hparts e.kids[k] (List.getElem_mem hlt)
      have hbt := bindsL_two e.kind e.name e.tail k
      have hlen : ((l ++ e.bindsAt k).length : Int) ≤ 2 * (d + 1 - 1) := by simp [Ex.bindsAt]; omega
      have hi1 : (k : Int) < (e.kids.length : Int) := by omega
      have hnbr : nb < wr.heap.size := hGr.lt
      have HTH : ∀ w', Below wr.heap.size wr w' → w'.there nb (k * 5) 5 := fun w' hb' => there_part (there_same (hb'.block _ hnbr) hth) (by omega)
      obtain ⟨ek, hek⟩ : ∃ x, x = tidyM ns e.kids[k] (l ++ e.bindsAt k) := ⟨_, rfl⟩
      have HF : Hid (es[k] = ek) := by rw [hek]; exact HE
      have hih2 : ∀ (w : World) (s v vn : Value) (d : Int), Lies w (· < w.heap.size) e.kids[k].kids s → Env w (l ++ e.bindsAt k) v → Env w ns vn → sizeM e.kids[k] d ≤ 60 → 1 ≤ d → ((l ++ e.bindsAt k).length : Int) ≤ 2 * (d - 1) →
        Calls Tryd.prog 17 #[e.kids[k].val s, v, vn] w fun r w' => MadeE w w' ek r := fun w s v vn d h1 h2 h3 h4 h5 h6 => by rw [hek]; exact hih w s v vn _ d hwk h1 h2 h3 h4 h5 h6
      clear hr hsl HE hek hih hwk hfar hfroz t0 t1 t2 t3 ih hw' hparts hGb
      go_wp2_with fail
      go_region_held3 (fun w' => w'.cell? ⟨w.heap.size, 0, none⟩ = some (.int .i64 e.kind) ∧ w'.cell? ⟨w.heap.size, 1, none⟩ = some (.string e.name) ∧ w'.cell? ⟨w.heap.size, 2, none⟩ = some (.string e.tail) ∧ w'.cell? ⟨w.heap.size, 3, none⟩ = some (.int .i64 e.num) ∧ w'.cell? ⟨w.heap.size, 4, none⟩ = some (.slice (some ⟨b, off, none⟩) e.kids.length cap) ∧ w'.cell? ⟨wr.heap.size, 0, none⟩ = some (.int .i64 e.kids[k].kind) ∧ w'.cell? ⟨wr.heap.size, 1, none⟩ = some (.string e.kids[k].name) ∧ w'.cell? ⟨wr.heap.size, 2, none⟩ = some (.string e.kids[k].tail) ∧ w'.cell? ⟨wr.heap.size, 3, none⟩ = some (.int .i64 e.kids[k].num) ∧ w'.cell? ⟨wr.heap.size, 4, none⟩ = some (.slice a2 e.kids[k].kids.length cap2) ∧ w'.cell? ⟨wb.heap.size, 4, none⟩ = some (.slice (some ⟨nb, 0, none⟩) e.kids.length e.kids.length))
        (first | exact HS _ hg2 | exact HS _ hg3 | exact HS _ hg1 | exact HS _ hd1)
        (first
          | (go_at_call 33; refine (impl_under _ _ _ _ _ _ l _ _ (by omega) (hl.keep hBY)).mono ?_; rintro r w2 ⟨v1, rfl, he1, hb1⟩; have hg1 := hd1.trans (but_of_below nb hb1); have hB1 := below_next hBX hb1; have hB1w := below_next hBY hb1)
          | (go_at_call 17; refine (hih2 _ _ _ _ (d + 1) (hlk.keep hB1w hB1w.size) he1 (hn.keep hB1w) hsk (by omega) hlen).mono ?_; rintro r w3 ⟨s', rfl, ht3, hb3⟩; have hg2 := hg1.trans (but_of_below nb hb3); have hB2 := below_next hB1 hb3; obtain ⟨a3, cap3, rfl⟩ := ht3.slice; obtain ⟨⟨z0, hz0⟩, ⟨z1, hz1⟩, ⟨z2, hz2⟩, ⟨z3, hz3⟩, ⟨z4, hz4⟩, f0, f1, f2, f3, f4⟩ := there5 (HTH _ hB2); have hg3 := hg2.trans (but5 w3 nb (k * 5) (.int .i64 ek.kind) (.string ek.name) (.string ek.tail) (.int .i64 ek.num) (.slice a3 ek.kids.length cap3))))
      clear HS p0 p1 p2 p3 p4 q0 q1 q2 q3 q4 qf r0 r1 r2 r3 r4 c0 c1 c2 c3 c4
      go_wp2_with fail
      go_roundw
      case rel => exact ⟨k + 1, by omega, by go_num, hGr.next5 (lo := w2.heap.size) hke HF.out hB2 (HTH _ hB2) (by have := hB1.size; omega) ht3, there_put5 (there_same (hB2.block _ hnbr) hth) _ _ _, (hG.trans (World.grownBy_alloc wr _ _)).trans hg3⟩
      case measure => simp [intOf]; omega
    · obtain rfl : k = e.kids.length := by omega
      have q0' := (hfar (w.heap.size + 1) 0 hz1 (by omega)).trans q0
      have q1' := (hfar (w.heap.size + 1) 1 hz1 (by omega)).trans q1
      have q2' := (hfar (w.heap.size + 1) 2 hz1 (by omega)).trans q2
      have q3' := (hfar (w.heap.size + 1) 3 hz1 (by omega)).trans q3
      have q4' := (hfar (w.heap.size + 1) 4 hz1 (by omega)).trans q4
      have qf' : ∀ j, wr.frozen? ⟨w.heap.size + 1, j, none⟩ = false := fun j => (hfroz (w.heap.size + 1) j hz1 (by omega)).trans (qf j)
      have hzr : w.heap.size + 1 < wr.heap.size := by omega
      clear hfar hfroz
      go_wp2_with fail
      refine bodyPost_ret (v := .agg #[.int .i64 e.kind, .string nm, .string tl, .int .i64 e.num, .slice (some ⟨nb, 0, none⟩) e.kids.length e.kids.length]) (by simp [results, Tryd.results17, go_sem, q0', q1', q2', q3', q4']) rfl ⟨.slice (some ⟨nb, 0, none⟩) e.kids.length e.kids.length, by rw [HT.out]; rfl, ?_, ?_⟩
      · rw [← hel] at hGr hth
        have hTr := hGr.all hth (lo := w.heap.size + 1 + 1) (by omega) es.length
        rw [hel] at hTr
        rw [HT.out]
        clear q0' q1' q2' q3' q4' qf' p0 p1 p2 p3 p4 q0 q1 q2 q3 q4 qf
        refine Tree.wide (lo := w.heap.size + 1 + 1) (hi := wr.heap.size) ?_ (by omega) (by simp [World.setCell])
        repeat (refine tree_set ?_ (by dsimp only; omega))
        exact hTr
      · clear q0' q1' q2' q3' q4' qf' p0 p1 p2 p3 p4 q0 q1 q2 q3 q4 qf
        repeat (refine Below.setCell ?_ (by dsimp only; omega) _)
        exact hBw
end Go.Proofs.YtkjppjhmejkidaaDoor

