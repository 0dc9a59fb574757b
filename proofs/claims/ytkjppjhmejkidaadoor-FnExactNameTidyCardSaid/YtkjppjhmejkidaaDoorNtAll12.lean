/-
  The program's tidyUnder, of what has parts.
  The program's tidyUnder, of what has parts.
  The program's tidyUnder, of every expression that is ok.
  A box of five cells that is written; a row of expressions that is appended to. No walk.
-/
import Derived.Test.YtkjppjhmejkidaaDoorNtAll11
import Derived.Test.YtkjppjhmejkidaaDoorNtAll10
import Derived.Deep.AppendLies
namespace Go.Proofs.YtkjppjhmejkidaaDoor
open Go.RowKit Go.Maps Go.WideMaps

set_option maxRecDepth 100000 in
set_option maxHeartbeats 2000000 in
theorem tidy_one (ns : List ByteArray) (hns : ns.length = 28) (e : Ex) (ih : ∀ x ∈ e.kids, ImplTidy ns x) (h0 : 0 < e.kids.length) (hk : e.kind = 4 ∨ e.kind = 6) : ImplTidy ns e := by
  intro w s v vn l d hw hv hl hn hsz hd1 hld
  obtain ⟨hd14, hkl, hbare⟩ := ok_has e d hsz
  have hparts := (sizeM_parts e d hsz).2
  obtain ⟨_, hkw, hw'⟩ := hw
  have hd13 : d + 1 ≤ 14 := (sizeM_parts e.kids[0] (d + 1) (hparts _ (List.getElem_mem h0))).1
  have hl24 : l.length ≤ 24 := by omega
  obtain ⟨al, capl, rfl, _⟩ := hl.open
  obtain ⟨a, cap, rfl⟩ := hv.slice
  obtain ⟨gn, capn, rfl, hgn, hnc⟩ := names_open hn (by omega)
  have h3' : (e.kind == 3) = false := by simp; intro h; have := kids_none _ _ hkl h; omega
  have hbc := fun w => impl_bareCopy e a cap w hkw
  have hib : (l.length : Int) < 28 := by omega
  have hib1 : (l.length : Int) + 1 < 28 := by omega
  rw [hns] at hn ⊢
  have ht0 : e.tail.toList = [] := bare_tail0 _ _ _ _ hbare (by omega)
  have hbi : binderB e.kind = true := by rw [binderB, decide_eq_true_iff]; omega
  obtain ⟨nm, hnm⟩ : ∃ x, x = ns[l.length] := ⟨_, rfl⟩
  have HT : Hid (tidyM ns e l = .mk e.kind nm e.tail e.num (tidyKids ns e l)) := by
    show _ = _
    rw [tidyM_eq, newName, if_neg (by omega), if_pos (by omega), newTail, if_neg (by omega), getD_of ns l.length (by omega), hnm]
  have hcn := hnc l.length (by omega)
  rw [← hnm] at hcn
  clear hnm hk
  obtain ⟨es, hes⟩ : ∃ es, es = tidyKids ns e l := ⟨_, rfl⟩
  rw [← hes] at HT
  have hel : es.length = e.kids.length := by rw [hes]; exact tidyKids_length ns e l
  have HG : Hid (∀ (k : Nat) (h : k < e.kids.length) (h' : k < es.length), es[k] = tidyM ns e.kids[k] (l ++ e.bindsAt k)) := by
    subst hes; exact fun k h h' => tidyKids_get ns e l k h h'
  clear hes hkl hbare hnc hsz hns
  go_enter Tryd.func17, Tryd.ntmps17
  go_wp2_with (first
    | (go_at_call 30; refine (hbc _).mono ?_; intro r wb hbb; obtain ⟨nb, rfl, hnb1, hnb2, hth0, hbB⟩ := bared_some hbb h0; have hbw : Below w.heap.size w wb := below_next (below_two w _ _) hbB; have hz := hbB.size; simp at hz hnb1; have hzz : w.heap.size < wb.heap.size := (by omega); have hz1 : w.heap.size + 1 < wb.heap.size := (by omega); obtain ⟨p0, p1, p2, p3, p4⟩ := box_first hbB; obtain ⟨⟨q0, q1, q2, q3, q4⟩, qf⟩ := box_second hbB; have hgb : gn < wb.heap.size := (by omega); have hcn2 : wb.cell? ⟨gn, l.length, none⟩ = some (.string nm) := (by rw [hbw.cell hgn]; exact hcn); clear hbb)
    | (go_at_call 32; refine (impl_binds _ _ _ _ _ _).mono ?_; rintro r w3 ⟨rfl, rfl⟩; rw [hbi]))
  go_loopw [48] (fun i wr => ∃ k : Nat, k ≤ e.kids.length ∧ i = .int .i64 k ∧ Grow wr nb es k ∧ wr.there nb 0 (e.kids.length * 5) ∧ (wb.alloc (.cells #[.int .i64 e.kind, .string nm, .string e.tail, .int .i64 e.num, .slice (some ⟨nb, 0, none⟩) e.kids.length e.kids.length] 28)).grownBy wr (some nb)) (fun i _ => e.kids.length - (intOf i).toNat)
  case atStart => exact ⟨0, by omega, rfl, Grow.start es (by simp; omega), there_but hth0 (below_al (below_al0 _ _)) hnb2, World.grownBy_alloc _ _ _⟩
  case round =>
    obtain ⟨k, hkl, rfl, hGr, hth, hG⟩ := hrel
    obtain ⟨t0, t1, t2, t3, t4⟩ := box5_but hG (by omega)
    have hGb := (World.grownBy_alloc wb (.cells #[.int .i64 e.kind, .string nm, .string e.tail, .int .i64 e.num, .slice (some ⟨nb, 0, none⟩) e.kids.length e.kids.length] 28) (some nb)).trans hG
    have hzb := hGb.size
    have hgz := hG.size
    simp at hgz
    have hfar : ∀ x j, x < wb.heap.size → x ≠ nb → wr.cell? ⟨x, j, none⟩ = wb.cell? ⟨x, j, none⟩ := fun x j h1 h2 => hGb.cell_far ⟨x, j, none⟩ h1 (by simpa using h2)
    have hfroz : ∀ x j, x < wb.heap.size → x ≠ nb → wr.frozen? ⟨x, j, none⟩ = wb.frozen? ⟨x, j, none⟩ := fun x j h1 h2 => hGb.frozen_far ⟨x, j, none⟩ h1 (by simpa using h2)
    have hBw : Below w.heap.size w wr := hbw.trans ⟨hGb.os, hGb.tape, hGb.output, hGb.size, fun x hx => hGb.block x (by omega) (by simp; omega)⟩
    by_cases hlt : k < e.kids.length
    · have hke : k < es.length := by omega
      obtain ⟨b, off, cap', s1, hS, hsl, hr, hlk⟩ := hv.at (List.getElem?_eq_getElem hlt)
      obtain ⟨rfl, rfl⟩ : a = some ⟨b, off, none⟩ ∧ cap = cap' := by simpa using hsl
      obtain ⟨c0, c1, c2, c3, c4⟩ := Ex.five (rangeAt_same (hBw.block b hS) hr)
      obtain ⟨a2, cap2, rfl⟩ := hlk.slice
      have r0 := (hfar w.heap.size 0 hzz (by omega)).trans p0
      have r1 := (hfar w.heap.size 1 hzz (by omega)).trans p1
      have r2 := (hfar w.heap.size 2 hzz (by omega)).trans p2
      have r3 := (hfar w.heap.size 3 hzz (by omega)).trans p3
      have r4 := (hfar w.heap.size 4 hzz (by omega)).trans p4
      have HE := HG.out k hlt hke
      have hGs : wr.heap.size = wr.heap.size := rfl
      have HS : ∀ w', (wr.alloc (.cells #[.int .i64 e.kids[k].kind, .string e.kids[k].name, .string e.kids[k].tail, .int .i64 e.kids[k].num, .slice a2 e.kids[k].kids.length cap2] 28)).grownBy w' (some nb) → (w'.cell? ⟨w.heap.size, 0, none⟩ = some (.int .i64 e.kind) ∧ w'.cell? ⟨w.heap.size, 1, none⟩ = some (.string e.name) ∧ w'.cell? ⟨w.heap.size, 2, none⟩ = some (.string e.tail) ∧ w'.cell? ⟨w.heap.size, 3, none⟩ = some (.int .i64 e.num) ∧ w'.cell? ⟨w.heap.size, 4, none⟩ = some (.slice (some ⟨b, off, none⟩) e.kids.length cap) ∧ w'.cell? ⟨wr.heap.size, 0, none⟩ = some (.int .i64 e.kids[k].kind) ∧ w'.cell? ⟨wr.heap.size, 1, none⟩ = some (.string e.kids[k].name) ∧ w'.cell? ⟨wr.heap.size, 2, none⟩ = some (.string e.kids[k].tail) ∧ w'.cell? ⟨wr.heap.size, 3, none⟩ = some (.int .i64 e.kids[k].num) ∧ w'.cell? ⟨wr.heap.size, 4, none⟩ = some (.slice a2 e.kids[k].kids.length cap2) ∧ w'.cell? ⟨wb.heap.size, 4, none⟩ = some (.slice (some ⟨nb, 0, none⟩) e.kids.length e.kids.length)) := fun w' hg' => by
        obtain ⟨y0, y1, y2, y3, y4⟩ := box5_but hg' (by omega)
        have hg2 := (World.grownBy_alloc wr (.cells #[.int .i64 e.kids[k].kind, .string e.kids[k].name, .string e.kids[k].tail, .int .i64 e.kids[k].num, .slice a2 e.kids[k].kids.length cap2] 28) (some nb)).trans hg'
        have hf2 : ∀ x j, x < wr.heap.size → x ≠ nb → w'.cell? ⟨x, j, none⟩ = wr.cell? ⟨x, j, none⟩ := fun x j h1 h2 => hg2.cell_far ⟨x, j, none⟩ h1 (by simpa using h2)
        exact ⟨(hf2 _ 0 (by omega) (by omega)).trans r0, (hf2 _ 1 (by omega) (by omega)).trans r1, (hf2 _ 2 (by omega) (by omega)).trans r2, (hf2 _ 3 (by omega) (by omega)).trans r3, (hf2 _ 4 (by omega) (by omega)).trans r4, y0, y1, y2, y3, y4, (hf2 _ 4 (by omega) (by omega)).trans t4⟩
      have hd1 : (wr.alloc (.cells #[.int .i64 e.kids[k].kind, .string e.kids[k].name, .string e.kids[k].tail, .int .i64 e.kids[k].num, .slice a2 e.kids[k].kids.length cap2] 28)).grownBy (wr.alloc (.cells #[.int .i64 e.kids[k].kind, .string e.kids[k].name, .string e.kids[k].tail, .int .i64 e.kids[k].num, .slice a2 e.kids[k].kids.length cap2] 28)).drew (some nb) := ⟨rfl, rfl, rfl, Nat.le_refl _, fun _ _ _ => rfl⟩
      have hBX : Below wr.heap.size wr (wr.alloc (.cells #[.int .i64 e.kids[k].kind, .string e.kids[k].name, .string e.kids[k].tail, .int .i64 e.kids[k].num, .slice a2 e.kids[k].kids.length cap2] 28)).drew := (below_al0 _ _).drew
      have hBY : Below w.heap.size w (wr.alloc (.cells #[.int .i64 e.kids[k].kind, .string e.kids[k].name, .string e.kids[k].tail, .int .i64 e.kids[k].num, .slice a2 e.kids[k].kids.length cap2] 28)).drew := below_next hBw hBX
      have hih := ih e.kids[k] (List.getElem_mem hlt)
      have hwk := hw' e.kids[k] (List.getElem_mem hlt)
      have hsk := hparts e.kids[k] (List.getElem_mem hlt)
      have hbt := bindsL_two e.kind e.name e.tail k
      have hlen : ((l ++ e.bindsAt k).length : Int) ≤ 2 * (d + 1 - 1) := by simp [Ex.bindsAt]; omega
      have hi1 : (k : Int) < (e.kids.length : Int) := by omega
      have hnbr : nb < wr.heap.size := hGr.lt
      have HTH : ∀ w', Below wr.heap.size wr w' → w'.there nb (k * 5) 5 := fun w' hb' => there_part (there_same (hb'.block _ hnbr) hth) (by omega)
      obtain ⟨ek, hek⟩ : ∃ x, x = tidyM ns e.kids[k] (l ++ e.bindsAt k) := ⟨_, rfl⟩
      have HF : Hid (es[k] = ek) := by rw [hek]; exact HE
      have hih2 : ∀ (w : World) (s v vn : Value) (d : Int), Lies w (· < w.heap.size) e.kids[k].kids s → Env w (l ++ e.bindsAt k) v → Env w ns vn → sizeM e.kids[k] d ≤ 60 → 1 ≤ d → ((l ++ e.bindsAt k).length : Int) ≤ 2 * (d - 1) →
        Calls Tryd.prog 17 #[e.kids[k].val s, v, vn] w fun r w' => MadeE w w' ek r := fun w s v vn d h1 h2 h3 h4 h5 h6 => by rw [hek]; exact hih w s v vn _ d hwk h1 h2 h3 h4 h5 h6
      clear hr hsl HE hek hih hwk hfar hfroz t0 t1 t2 t3 ih hw' hparts hGb
      go_wp2_with fail
      go_region_held3 (fun w' => w'.cell? ⟨w.heap.size, 0, none⟩ = some (.int .i64 e.kind) ∧ w'.cell? ⟨w.heap.size, 1, none⟩ = some (.string e.name) ∧ w'.cell? ⟨w.heap.size, 2, none⟩ = some (.string e.tail) ∧ w'.cell? ⟨w.heap.size, 3, none⟩ = some (.int .i64 e.num) ∧ w'.cell? ⟨w.heap.size, 4, none⟩ = some (.slice (some ⟨b, off, none⟩) e.kids.length cap) ∧ w'.cell? ⟨wr.heap.size, 0, none⟩ = some (.int .i64 e.kids[k].kind) ∧ w'.cell? ⟨wr.heap.size, 1, none⟩ = some (.string e.kids[k].name) ∧ w'.cell? ⟨wr.heap.size, 2, none⟩ = some (.string e.kids[k].tail) ∧ w'.cell? ⟨wr.heap.size, 3, none⟩ = some (.int .i64 e.kids[k].num) ∧ w'.cell? ⟨wr.heap.size, 4, none⟩ = some (.slice a2 e.kids[k].kids.length cap2) ∧ w'.cell? ⟨wb.heap.size, 4, none⟩ = some (.slice (some ⟨nb, 0, none⟩) e.kids.length e.kids.length))
        (first | exact HS _ hg2 | exact HS _ hg3 | exact HS _ hg1 | exact HS _ hd1)
        (first
          | (go_at_call 33; refine (impl_under _ _ _ _ _ _ l _ _ (by omega) (hl.keep hBY)).mono ?_; rintro r w2 ⟨v1, rfl, he1, hb1⟩; have hg1 := hd1.trans (but_of_below nb hb1); have hB1 := below_next hBX hb1; have hB1w := below_next hBY hb1)
          | (go_at_call 17; refine (hih2 _ _ _ _ (d + 1) (hlk.keep hB1w hB1w.size) he1 (hn.keep hB1w) hsk (by omega) hlen).mono ?_; rintro r w3 ⟨s', rfl, ht3, hb3⟩; have hg2 := hg1.trans (but_of_below nb hb3); have hB2 := below_next hB1 hb3; obtain ⟨a3, cap3, rfl⟩ := ht3.slice; obtain ⟨⟨z0, hz0⟩, ⟨z1, hz1⟩, ⟨z2, hz2⟩, ⟨z3, hz3⟩, ⟨z4, hz4⟩, f0, f1, f2, f3, f4⟩ := there5 (HTH _ hB2); have hg3 := hg2.trans (but5 w3 nb (k * 5) (.int .i64 ek.kind) (.string ek.name) (.string ek.tail) (.int .i64 ek.num) (.slice a3 ek.kids.length cap3))))
      clear HS p0 p1 p2 p3 p4 q0 q1 q2 q3 q4 qf r0 r1 r2 r3 r4 c0 c1 c2 c3 c4
      go_wp2_with fail
      go_roundw
      case rel => exact ⟨k + 1, by omega, by go_num, hGr.next5 (lo := w2.heap.size) hke HF.out hB2 (HTH _ hB2) (by have := hB1.size; omega) ht3, there_put5 (there_same (hB2.block _ hnbr) hth) _ _ _, (hG.trans (World.grownBy_alloc wr _ _)).trans hg3⟩
      case measure => simp [intOf]; omega
    · obtain rfl : k = e.kids.length := by omega
      have q0' := (hfar (w.heap.size + 1) 0 hz1 (by omega)).trans q0
      have q1' := (hfar (w.heap.size + 1) 1 hz1 (by omega)).trans q1
      have q2' := (hfar (w.heap.size + 1) 2 hz1 (by omega)).trans q2
      have q3' := (hfar (w.heap.size + 1) 3 hz1 (by omega)).trans q3
      have q4' := (hfar (w.heap.size + 1) 4 hz1 (by omega)).trans q4
      have qf' : ∀ j, wr.frozen? ⟨w.heap.size + 1, j, none⟩ = false := fun j => (hfroz (w.heap.size + 1) j hz1 (by omega)).trans (qf j)
      have hzr : w.heap.size + 1 < wr.heap.size := by omega
      clear hfar hfroz
      go_wp2_with fail
      refine bodyPost_ret (v := .agg #[.int .i64 e.kind, .string nm, .string e.tail, .int .i64 e.num, .slice (some ⟨nb, 0, none⟩) e.kids.length e.kids.length]) (by simp [results, Tryd.results17, go_sem, q0', q1', q2', q3', q4']) rfl ⟨.slice (some ⟨nb, 0, none⟩) e.kids.length e.kids.length, by rw [HT.out]; rfl, ?_, ?_⟩
      · rw [← hel] at hGr hth
        have hTr := hGr.all hth (lo := w.heap.size + 1 + 1) (by omega) es.length
        rw [hel] at hTr
        rw [HT.out]
        clear q0' q1' q2' q3' q4' qf' p0 p1 p2 p3 p4 q0 q1 q2 q3 q4 qf
        refine Tree.wide (lo := w.heap.size + 1 + 1) (hi := wr.heap.size) ?_ (by omega) (by simp [World.setCell])
        repeat (refine tree_set ?_ (by dsimp only; omega))
        exact hTr
      · clear q0' q1' q2' q3' q4' qf' p0 p1 p2 p3 p4 q0 q1 q2 q3 q4 qf
        repeat (refine Below.setCell ?_ (by dsimp only; omega) _)
        exact hBw
end Go.Proofs.YtkjppjhmejkidaaDoor

namespace Go.Proofs.YtkjppjhmejkidaaDoor
open Go.RowKit Go.Maps Go.WideMaps

set_option maxRecDepth 100000 in
set_option maxHeartbeats 2000000 in
theorem tidy_none (ns : List ByteArray) (hns : ns.length = 28) (e : Ex) (ih : ∀ x ∈ e.kids, ImplTidy ns x) (h0 : 0 < e.kids.length) (hk : ¬ (e.kind = 4 ∨ e.kind = 6 ∨ e.kind = 7 ∨ e.kind = 14)) : ImplTidy ns e := by
  intro w s v vn l d hw hv hl hn hsz hd1 hld
  obtain ⟨hd14, hkl, hbare⟩ := ok_has e d hsz
  have hparts := (sizeM_parts e d hsz).2
  obtain ⟨_, hkw, hw'⟩ := hw
  have hd13 : d + 1 ≤ 14 := (sizeM_parts e.kids[0] (d + 1) (hparts _ (List.getElem_mem h0))).1
  have hl24 : l.length ≤ 24 := by omega
  obtain ⟨al, capl, rfl, _⟩ := hl.open
  obtain ⟨a, cap, rfl⟩ := hv.slice
  obtain ⟨gn, capn, rfl, hgn, hnc⟩ := names_open hn (by omega)
  have h3' : (e.kind == 3) = false := by simp; intro h; have := kids_none _ _ hkl h; omega
  have hbc := fun w => impl_bareCopy e a cap w hkw
  have hib : (l.length : Int) < 28 := by omega
  have hib1 : (l.length : Int) + 1 < 28 := by omega
  rw [hns] at hn ⊢
  have ht0 : e.tail.toList = [] := bare_tail0 _ _ _ _ hbare (by omega)
  have hbi : binderB e.kind = false := by rw [binderB, decide_eq_false_iff_not]; exact hk
  have HT : Hid (tidyM ns e l = .mk e.kind e.name e.tail e.num (tidyKids ns e l)) := by
    show _ = _
    rw [tidyM_eq, newName, if_neg (by simpa using h3'), if_neg hk, newTail, if_neg (by omega)]
  clear hk
  obtain ⟨es, hes⟩ : ∃ es, es = tidyKids ns e l := ⟨_, rfl⟩
  rw [← hes] at HT
  have hel : es.length = e.kids.length := by rw [hes]; exact tidyKids_length ns e l
  have HG : Hid (∀ (k : Nat) (h : k < e.kids.length) (h' : k < es.length), es[k] = tidyM ns e.kids[k] (l ++ e.bindsAt k)) := by
    subst hes; exact fun k h h' => tidyKids_get ns e l k h h'
  clear hes hkl hbare hnc hsz hns
  go_enter Tryd.func17, Tryd.ntmps17
  go_wp2_with (first
    | (go_at_call 30; refine (hbc _).mono ?_; intro r wb hbb; obtain ⟨nb, rfl, hnb1, hnb2, hth0, hbB⟩ := bared_some hbb h0; have hbw : Below w.heap.size w wb := below_next (below_two w _ _) hbB; have hz := hbB.size; simp at hz hnb1; have hzz : w.heap.size < wb.heap.size := (by omega); have hz1 : w.heap.size + 1 < wb.heap.size := (by omega); obtain ⟨p0, p1, p2, p3, p4⟩ := box_first hbB; obtain ⟨⟨q0, q1, q2, q3, q4⟩, qf⟩ := box_second hbB; have hgb : gn < wb.heap.size := (by omega); clear hbb)
    | (go_at_call 32; refine (impl_binds _ _ _ _ _ _).mono ?_; rintro r w3 ⟨rfl, rfl⟩; rw [hbi]))
  go_loopw [48] (fun i wr => ∃ k : Nat, k ≤ e.kids.length ∧ i = .int .i64 k ∧ Grow wr nb es k ∧ wr.there nb 0 (e.kids.length * 5) ∧ (wb.alloc (.cells #[.int .i64 e.kind, .string e.name, .string e.tail, .int .i64 e.num, .slice (some ⟨nb, 0, none⟩) e.kids.length e.kids.length] 28)).grownBy wr (some nb)) (fun i _ => e.kids.length - (intOf i).toNat)
  case atStart => exact ⟨0, by omega, rfl, Grow.start es (by simp; omega), there_but hth0 (below_al (below_al0 _ _)) hnb2, World.grownBy_alloc _ _ _⟩
  case round =>
    obtain ⟨k, hkl, rfl, hGr, hth, hG⟩ := hrel
    obtain ⟨t0, t1, t2, t3, t4⟩ := box5_but hG (by omega)
    have hGb := (World.grownBy_alloc wb (.cells #[.int .i64 e.kind, .string e.name, .string e.tail, .int .i64 e.num, .slice (some ⟨nb, 0, none⟩) e.kids.length e.kids.length] 28) (some nb)).trans hG
    have hzb := hGb.size
    have hgz := hG.size
    simp at hgz
    have hfar : ∀ x j, x < wb.heap.size → x ≠ nb → wr.cell? ⟨x, j, none⟩ = wb.cell? ⟨x, j, none⟩ := fun x j h1 h2 => hGb.cell_far ⟨x, j, none⟩ h1 (by simpa using h2)
    have hfroz : ∀ x j, x < wb.heap.size → x ≠ nb → wr.frozen? ⟨x, j, none⟩ = wb.frozen? ⟨x, j, none⟩ := fun x j h1 h2 => hGb.frozen_far ⟨x, j, none⟩ h1 (by simpa using h2)
    have hBw : Below w.heap.size w wr := hbw.trans ⟨hGb.os, hGb.tape, hGb.output, hGb.size, fun x hx => hGb.block x (by omega) (by simp; omega)⟩
    by_cases hlt : k < e.kids.length
    · have hke : k < es.length := by omega
      obtain ⟨b, off, cap', s1, hS, hsl, hr, hlk⟩ := hv.at (List.getElem?_eq_getElem hlt)
      obtain ⟨rfl, rfl⟩ : a = some ⟨b, off, none⟩ ∧ cap = cap' := by simpa using hsl
      obtain ⟨c0, c1, c2, c3, c4⟩ := Ex.five (rangeAt_same (hBw.block b hS) hr)
      obtain ⟨a2, cap2, rfl⟩ := hlk.slice
      have r0 := (hfar w.heap.size 0 hzz (by omega)).trans p0
      have r1 := (hfar w.heap.size 1 hzz (by omega)).trans p1
      have r2 := (hfar w.heap.size 2 hzz (by omega)).trans p2
      have r3 := (hfar w.heap.size 3 hzz (by omega)).trans p3
      have r4 := (hfar w.heap.size 4 hzz (by omega)).trans p4
      have HE := HG.out k hlt hke
      have hGs : wr.heap.size = wr.heap.size := rfl
      have HS : ∀ w', (wr.alloc (.cells #[.int .i64 e.kids[k].kind, .string e.kids[k].name, .string e.kids[k].tail, .int .i64 e.kids[k].num, .slice a2 e.kids[k].kids.length cap2] 28)).grownBy w' (some nb) → (w'.cell? ⟨w.heap.size, 0, none⟩ = some (.int .i64 e.kind) ∧ w'.cell? ⟨w.heap.size, 1, none⟩ = some (.string e.name) ∧ w'.cell? ⟨w.heap.size, 2, none⟩ = some (.string e.tail) ∧ w'.cell? ⟨w.heap.size, 3, none⟩ = some (.int .i64 e.num) ∧ w'.cell? ⟨w.heap.size, 4, none⟩ = some (.slice (some ⟨b, off, none⟩) e.kids.length cap) ∧ w'.cell? ⟨wr.heap.size, 0, none⟩ = some (.int .i64 e.kids[k].kind) ∧ w'.cell? ⟨wr.heap.size, 1, none⟩ = some (.string e.kids[k].name) ∧ w'.cell? ⟨wr.heap.size, 2, none⟩ = some (.string e.kids[k].tail) ∧ w'.cell? ⟨wr.heap.size, 3, none⟩ = some (.int .i64 e.kids[k].num) ∧ w'.cell? ⟨wr.heap.size, 4, none⟩ = some (.slice a2 e.kids[k].kids.length cap2) ∧ w'.cell? ⟨wb.heap.size, 4, none⟩ = some (.slice (some ⟨nb, 0, none⟩) e.kids.length e.kids.length)) := fun w' hg' => by
        obtain ⟨y0, y1, y2, y3, y4⟩ := box5_but hg' (by omega)
        have hg2 := (World.grownBy_alloc wr (.cells #[.int .i64 e.kids[k].kind, .string e.kids[k].name, .string e.kids[k].tail, .int .i64 e.kids[k].num, .slice a2 e.kids[k].kids.length cap2] 28) (some nb)).trans hg'
        have hf2 : ∀ x j, x < wr.heap.size → x ≠ nb → w'.cell? ⟨x, j, none⟩ = wr.cell? ⟨x, j, none⟩ := fun x j h1 h2 => hg2.cell_far ⟨x, j, none⟩ h1 (by simpa using h2)
        exact ⟨(hf2 _ 0 (by omega) (by omega)).trans r0, (hf2 _ 1 (by omega) (by omega)).trans r1, (hf2 _ 2 (by omega) (by omega)).trans r2, (hf2 _ 3 (by omega) (by omega)).trans r3, (hf2 _ 4 (by omega) (by omega)).trans r4, y0, y1, y2, y3, y4, (hf2 _ 4 (by omega) (by omega)).trans t4⟩
      have hd1 : (wr.alloc (.cells #[.int .i64 e.kids[k].kind, .string e.kids[k].name, .string e.kids[k].tail, .int .i64 e.kids[k].num, .slice a2 e.kids[k].kids.length cap2] 28)).grownBy (wr.alloc (.cells #[.int .i64 e.kids[k].kind, .string e.kids[k].name, .string e.kids[k].tail, .int .i64 e.kids[k].num, .slice a2 e.kids[k].kids.length cap2] 28)).drew (some nb) := ⟨rfl, rfl, rfl, Nat.le_refl _, fun _ _ _ => rfl⟩
      have hBX : Below wr.heap.size wr (wr.alloc (.cells #[.int .i64 e.kids[k].kind, .string e.kids[k].name, .string e.kids[k].tail, .int .i64 e.kids[k].num, .slice a2 e.kids[k].kids.length cap2] 28)).drew := (below_al0 _ _).drew
      have hBY : Below w.heap.size w (wr.alloc (.cells #[.int .i64 e.kids[k].kind, .string e.kids[k].name, .string e.kids[k].tail, .int .i64 e.kids[k].num, .slice a2 e.kids[k].kids.length cap2] 28)).drew := below_next hBw hBX
      have hih := ih e.kids[k] (List.getElem_mem hlt)
      have hwk := hw' e.kids[k] (List.getElem_mem hlt)
      have hsk := hparts e.kids[k] (List.getElem_mem hlt)
      have hbt := bindsL_two e.kind e.name e.tail k
      have hlen : ((l ++ e.bindsAt k).length : Int) ≤ 2 * (d + 1 - 1) := by simp [Ex.bindsAt]; omega
      have hi1 : (k : Int) < (e.kids.length : Int) := by omega
      have hnbr : nb < wr.heap.size := hGr.lt
      have HTH : ∀ w', Below wr.heap.size wr w' → w'.there nb (k * 5) 5 := fun w' hb' => there_part (there_same (hb'.block _ hnbr) hth) (by omega)
      obtain ⟨ek, hek⟩ : ∃ x, x = tidyM ns e.kids[k] (l ++ e.bindsAt k) := ⟨_, rfl⟩
      have HF : Hid (es[k] = ek) := by rw [hek]; exact HE
      have hih2 : ∀ (w : World) (s v vn : Value) (d : Int), Lies w (· < w.heap.size) e.kids[k].kids s → Env w (l ++ e.bindsAt k) v → Env w ns vn → sizeM e.kids[k] d ≤ 60 → 1 ≤ d → ((l ++ e.bindsAt k).length : Int) ≤ 2 * (d - 1) →
        Calls Tryd.prog 17 #[e.kids[k].val s, v, vn] w fun r w' => MadeE w w' ek r := fun w s v vn d h1 h2 h3 h4 h5 h6 => by rw [hek]; exact hih w s v vn _ d hwk h1 h2 h3 h4 h5 h6
      clear hr hsl HE hek hih hwk hfar hfroz t0 t1 t2 t3 ih hw' hparts hGb
      go_wp2_with fail
      go_region_held3 (fun w' => w'.cell? ⟨w.heap.size, 0, none⟩ = some (.int .i64 e.kind) ∧ w'.cell? ⟨w.heap.size, 1, none⟩ = some (.string e.name) ∧ w'.cell? ⟨w.heap.size, 2, none⟩ = some (.string e.tail) ∧ w'.cell? ⟨w.heap.size, 3, none⟩ = some (.int .i64 e.num) ∧ w'.cell? ⟨w.heap.size, 4, none⟩ = some (.slice (some ⟨b, off, none⟩) e.kids.length cap) ∧ w'.cell? ⟨wr.heap.size, 0, none⟩ = some (.int .i64 e.kids[k].kind) ∧ w'.cell? ⟨wr.heap.size, 1, none⟩ = some (.string e.kids[k].name) ∧ w'.cell? ⟨wr.heap.size, 2, none⟩ = some (.string e.kids[k].tail) ∧ w'.cell? ⟨wr.heap.size, 3, none⟩ = some (.int .i64 e.kids[k].num) ∧ w'.cell? ⟨wr.heap.size, 4, none⟩ = some (.slice a2 e.kids[k].kids.length cap2) ∧ w'.cell? ⟨wb.heap.size, 4, none⟩ = some (.slice (some ⟨nb, 0, none⟩) e.kids.length e.kids.length))
        (first | exact HS _ hg2 | exact HS _ hg3 | exact HS _ hg1 | exact HS _ hd1)
        (first
          | (go_at_call 33; refine (impl_under _ _ _ _ _ _ l _ _ (by omega) (hl.keep hBY)).mono ?_; rintro r w2 ⟨v1, rfl, he1, hb1⟩; have hg1 := hd1.trans (but_of_below nb hb1); have hB1 := below_next hBX hb1; have hB1w := below_next hBY hb1)
          | (go_at_call 17; refine (hih2 _ _ _ _ (d + 1) (hlk.keep hB1w hB1w.size) he1 (hn.keep hB1w) hsk (by omega) hlen).mono ?_; rintro r w3 ⟨s', rfl, ht3, hb3⟩; have hg2 := hg1.trans (but_of_below nb hb3); have hB2 := below_next hB1 hb3; obtain ⟨a3, cap3, rfl⟩ := ht3.slice; obtain ⟨⟨z0, hz0⟩, ⟨z1, hz1⟩, ⟨z2, hz2⟩, ⟨z3, hz3⟩, ⟨z4, hz4⟩, f0, f1, f2, f3, f4⟩ := there5 (HTH _ hB2); have hg3 := hg2.trans (but5 w3 nb (k * 5) (.int .i64 ek.kind) (.string ek.name) (.string ek.tail) (.int .i64 ek.num) (.slice a3 ek.kids.length cap3))))
      clear HS p0 p1 p2 p3 p4 q0 q1 q2 q3 q4 qf r0 r1 r2 r3 r4 c0 c1 c2 c3 c4
      go_wp2_with fail
      go_roundw
      case rel => exact ⟨k + 1, by omega, by go_num, hGr.next5 (lo := w2.heap.size) hke HF.out hB2 (HTH _ hB2) (by have := hB1.size; omega) ht3, there_put5 (there_same (hB2.block _ hnbr) hth) _ _ _, (hG.trans (World.grownBy_alloc wr _ _)).trans hg3⟩
      case measure => simp [intOf]; omega
    · obtain rfl : k = e.kids.length := by omega
      have q0' := (hfar (w.heap.size + 1) 0 hz1 (by omega)).trans q0
      have q1' := (hfar (w.heap.size + 1) 1 hz1 (by omega)).trans q1
      have q2' := (hfar (w.heap.size + 1) 2 hz1 (by omega)).trans q2
      have q3' := (hfar (w.heap.size + 1) 3 hz1 (by omega)).trans q3
      have q4' := (hfar (w.heap.size + 1) 4 hz1 (by omega)).trans q4
      have qf' : ∀ j, wr.frozen? ⟨w.heap.size + 1, j, none⟩ = false := fun j => (hfroz (w.heap.size + 1) j hz1 (by omega)).trans (qf j)
      have hzr : w.heap.size + 1 < wr.heap.size := by omega
      clear hfar hfroz
      go_wp2_with fail
      refine bodyPost_ret (v := .agg #[.int .i64 e.kind, .string e.name, .string e.tail, .int .i64 e.num, .slice (some ⟨nb, 0, none⟩) e.kids.length e.kids.length]) (by simp [results, Tryd.results17, go_sem, q0', q1', q2', q3', q4']) rfl ⟨.slice (some ⟨nb, 0, none⟩) e.kids.length e.kids.length, by rw [HT.out]; rfl, ?_, ?_⟩
      · rw [← hel] at hGr hth
        have hTr := hGr.all hth (lo := w.heap.size + 1 + 1) (by omega) es.length
        rw [hel] at hTr
        rw [HT.out]
        clear q0' q1' q2' q3' q4' qf' p0 p1 p2 p3 p4 q0 q1 q2 q3 q4 qf
        refine Tree.wide (lo := w.heap.size + 1 + 1) (hi := wr.heap.size) ?_ (by omega) (by simp [World.setCell])
        repeat (refine tree_set ?_ (by dsimp only; omega))
        exact hTr
      · clear q0' q1' q2' q3' q4' qf' p0 p1 p2 p3 p4 q0 q1 q2 q3 q4 qf
        repeat (refine Below.setCell ?_ (by dsimp only; omega) _)
        exact hBw
end Go.Proofs.YtkjppjhmejkidaaDoor

namespace Go.Proofs.YtkjppjhmejkidaaDoor
open Go.RowKit

theorem impl_tidyUnder (ns : List ByteArray) (hns : ns.length = 28) (e : Ex) : ImplTidy ns e := by
  induction e using Ex.ind with
  | h e ih =>
    by_cases h0 : e.kids.length = 0
    · by_cases h3 : e.kind = 3
      · exact tidy_free ns hns e h0 h3
      · exact tidy_plain ns hns e h0 h3
    · by_cases h2 : e.kind = 7 ∨ e.kind = 14
      · exact tidy_two ns hns e ih (by omega) h2
      · by_cases h1 : e.kind = 4 ∨ e.kind = 6
        · exact tidy_one ns hns e ih (by omega) h1
        · exact tidy_none ns hns e ih (by omega) (by omega)
end Go.Proofs.YtkjppjhmejkidaaDoor

namespace Go.Proofs.YtkjppjhmejkidaaDoor
open Go.RowKit Go.Maps Go.WideMaps

/-- The block g holds these five cells. -/
def Box5 (w : World) (g : Nat) (a b c d x : Value) : Prop := w.heap[g]? = some (.cells #[a, b, c, d, x] 28)
theorem Box5.new (w : World) (a b c d x : Value) : Box5 (w.alloc (.cells #[a, b, c, d, x] 28)) w.heap.size a b c d x := heap_alloc_new _ _
theorem Box5.lt {w : World} {g : Nat} {a b c d x : Value} (h : Box5 w g a b c d x) : g < w.heap.size := (Array.getElem?_eq_some_iff.1 h).1
theorem Box5.keep {w w' : World} {g : Nat} {a b c d x : Value} (h : Box5 w g a b c d x) (hb : Below w.heap.size w w') : Box5 w' g a b c d x := by
  unfold Box5; rw [hb.block g h.lt]; exact h
theorem Box5.but {w w' : World} {g o : Nat} {a b c d x : Value} (h : Box5 w g a b c d x) (hb : w.grownBy w' (some o)) (ho : g ≠ o) : Box5 w' g a b c d x := by
  unfold Box5; rw [hb.block g h.lt (by simpa using ho)]; exact h
theorem Box5.cells {w : World} {g : Nat} {a b c d x : Value} (h : Box5 w g a b c d x) : w.cell? ⟨g, 0, none⟩ = some a ∧ w.cell? ⟨g, 1, none⟩ = some b ∧ w.cell? ⟨g, 2, none⟩ = some c ∧ w.cell? ⟨g, 3, none⟩ = some d ∧ w.cell? ⟨g, 4, none⟩ = some x := by
  have key : ∀ j, w.cell? ⟨g, j, none⟩ = (#[a, b, c, d, x] : Array Value)[j]? := fun j => cell_of_row _ _ _ _ _ _ h
  exact ⟨key 0, key 1, key 2, key 3, key 4⟩
theorem Box5.froz {w : World} {g : Nat} {a b c d x : Value} (h : Box5 w g a b c d x) (j : Nat) : w.frozen? ⟨g, j, none⟩ = false := by
  unfold World.frozen?
  rw [h]
  simp
theorem Box5.set {w : World} {g : Nat} {a b c d x : Value} (h : Box5 w g a b c d x) (j : Nat) (v : Value) : (w.setCell ⟨g, j, none⟩ v).heap[g]? = some (.cells ((#[a, b, c, d, x] : Array Value).setIfInBounds j v) 28) := by
  unfold World.setCell
  simp only [Array.getElem?_modify]
  simp
  exact ⟨_, h, by simp⟩
theorem Box5.set1 {w : World} {g : Nat} {a b c d x : Value} (h : Box5 w g a b c d x) (v : Value) : Box5 (w.setCell ⟨g, 1, none⟩ v) g a v c d x := h.set 1 v
theorem Box5.set2 {w : World} {g : Nat} {a b c d x : Value} (h : Box5 w g a b c d x) (v : Value) : Box5 (w.setCell ⟨g, 2, none⟩ v) g a b v d x := h.set 2 v
theorem Box5.set4 {w : World} {g : Nat} {a b c d x : Value} (h : Box5 w g a b c d x) (v : Value) : Box5 (w.setCell ⟨g, 4, none⟩ v) g a b c d v := h.set 4 v
theorem but_one (w : World) (g j : Nat) (v : Value) : w.grownBy (w.setCell ⟨g, j, none⟩ v) (some g) := but_set w g j [v]

/-- The cells of expressions whose parts are the slices ss. -/
def rowCells : List Ex → List Value → List Value
  | e :: es, s :: ss => e.cells s ++ rowCells es ss
  | _, _ => []
theorem rowCells_snoc (es : List Ex) : ∀ (ss : List Value) (e : Ex) (s : Value), ss.length = es.length → rowCells (es ++ [e]) (ss ++ [s]) = rowCells es ss ++ e.cells s := by
  induction es with
  | nil => intro ss e s h; obtain rfl := List.length_eq_zero_iff.1 h; simp [rowCells]
  | cons x es ih =>
    intro ss e s h
    cases ss with
    | nil => simp at h
    | cons y ss => simp only [List.cons_append, rowCells, ih ss e s (by simpa using h), List.append_assoc]
theorem rowCells_get (es : List Ex) : ∀ (ss : List Value) (i q : Nat) (e : Ex) (s u : Value), es[i]? = some e → ss[i]? = some s → (e.cells s)[q]? = some u → (rowCells es ss)[i * 5 + q]? = some u := by
  induction es with
  | nil => intro ss i q e s u h; simp at h
  | cons x es ih =>
    intro ss i q e s u he hs hq
    cases ss with
    | nil => simp at hs
    | cons y ss =>
      have hq5 : q < 5 := by have := (List.getElem?_eq_some_iff.1 hq).1; simpa [Ex.cells] using this
      rw [rowCells]
      cases i with
      | zero =>
        simp at he hs
        subst he; subst hs
        rw [Nat.zero_mul, Nat.zero_add, List.getElem?_append_left (by simpa [Ex.cells] using hq5)]; exact hq
      | succ i =>
        have hl : (x.cells y).length = 5 := rfl
        rw [List.getElem?_append_right (by omega), hl]
        have : (i + 1) * 5 + q - 5 = i * 5 + q := by omega
        rw [this]
        exact ih ss i q e s u (by simpa using he) (by simpa using hs) hq

/-- Expressions in a row that may grow, their parts in other blocks. -/
def Rows5 (w : World) (B : Nat) (es : List Ex) (ss : List Value) (v : Value) : Prop :=
  ss.length = es.length ∧ w.ownsRow B 28 5 v es.length (rowCells es ss) ∧ ∀ (i : Nat) (e : Ex) (s : Value), es[i]? = some e → ss[i]? = some s → Lies w (fun b => (B ≤ b ∧ b < w.heap.size) ∧ v.ownBlock ≠ some b) e.kids s
theorem Rows5.nil (w : World) (B : Nat) : Rows5 w B [] [] (.slice none 0 0) := ⟨rfl, World.ownsRow_nil w B _ 5, fun i e s h => by simp at h⟩
theorem Rows5.but {w w' : World} {B o : Nat} {es : List Ex} {ss : List Value} {v : Value} (h : Rows5 w B es ss v) (hg : w.grownBy w' (some o)) (ho : o < B) : Rows5 w' B es ss v := by
  obtain ⟨h1, h2, h3⟩ := h
  refine ⟨h1, h2.kept hg ?_, fun i e s he hs => (h3 i e s he hs).same fun b hb => ⟨hg.block b hb.1.2 (by have := hb.1.1; simp; omega), ⟨hb.1.1, Nat.lt_of_lt_of_le hb.1.2 hg.size⟩, hb.2⟩⟩
  cases hv : v.ownBlock with
  | none => exact Or.inl rfl
  | some k => refine Or.inr ?_; have := (h2.lt k hv).1; simp; omega
theorem Rows5.keep {w w' : World} {B : Nat} {es : List Ex} {ss : List Value} {v : Value} (h : Rows5 w B es ss v) (hb : Below w.heap.size w w') : Rows5 w' B es ss v := by
  obtain ⟨h1, h2, h3⟩ := h
  refine ⟨h1, ?_, fun i e s he hs => (h3 i e s he hs).same fun b hb' => ⟨hb.block b hb'.1.2, ⟨hb'.1.1, Nat.lt_of_lt_of_le hb'.1.2 hb.size⟩, hb'.2⟩⟩
  have hg : w.grownBy w' none := ⟨hb.os, hb.tape, hb.output, hb.size, fun k hk _ => hb.block k hk⟩
  refine h2.kept hg ?_
  cases v.ownBlock with
  | none => exact Or.inl rfl
  | some k => exact Or.inr (by simp)
theorem Rows5.lies {w : World} {B : Nat} {es : List Ex} {ss : List Value} {v : Value} (h : Rows5 w B es ss v) : Lies w (fun b => B ≤ b ∧ b < w.heap.size) es v := by
  obtain ⟨h1, h2, h3⟩ := h
  have hl := h2
  rcases h2.2 with ⟨rfl, hn⟩ | ⟨g, cap, cur, rfl, hb, hg, _⟩
  · obtain rfl := List.length_eq_zero_iff.1 hn
    exact .none _ _
  · have hc := hl.cells (g := g) rfl
    refine .some g 0 cap es ss ⟨hb, (Array.getElem?_eq_some_iff.1 hg).1⟩ h1 (fun i e s he hs q u hq => ?_) (fun i e s he hs => (h3 i e s he hs).same fun b hb' => ⟨rfl, hb'.1⟩)
    have := hc (i * 5 + q) u (rowCells_get es ss i q e s u he hs hq)
    rw [Addr.add_mid] at this
    simpa using this
/-- One more is appended. -/
theorem Rows5.next {w w1 w2 w3 : World} {B lo g cap : Nat} {es : List Ex} {ss : List Value} {v s : Value} {e : Ex} (h : Rows5 w B es ss v) (hb1 : Below w.heap.size w w1) (hb2 : Below w1.heap.size w1 w2) (hlo : w.heap.size ≤ lo) (hB : B ≤ lo) (hs : Lies w1 (fun b => lo ≤ b ∧ b < w1.heap.size) e.kids s)
    (how : w3.ownsRow B 28 5 (.slice (some ⟨g, 0, none⟩) (es.length + 1) cap) (es.length + 1) (rowCells es ss ++ e.cells s)) (hg : w2.grownBy w3 v.ownBlock) (hor : v.ownBlock = some g ∨ g = w2.heap.size) : Rows5 w3 B (es ++ [e]) (ss ++ [s]) (.slice (some ⟨g, 0, none⟩) (es.length + 1) cap) := by
  have hk := (h.keep hb1).keep hb2
  have hown : ∀ k, v.ownBlock = some k → k < w.heap.size := fun k hk => (h.2.1.lt k hk).2
  have hz1 := hb1.size
  have hz2 := hb2.size
  obtain ⟨h1, h2, h3⟩ := hk
  refine ⟨by simp; omega, ?_, ?_⟩
  · rw [rowCells_snoc es ss e s h1, List.length_append]; exact how
  · intro i x y hx hy
    by_cases hi : i < es.length
    · rw [List.getElem?_append_left hi] at hx
      rw [List.getElem?_append_left (by omega)] at hy
      refine (h3 i x y hx hy).same fun b hb' => ⟨hg.block b hb'.1.2 (fun he => hb'.2 he.symm), ⟨hb'.1.1, Nat.lt_of_lt_of_le hb'.1.2 hg.size⟩, ?_⟩
      simp only [Value.ownBlock, ne_eq, Option.some.injEq]
      rintro rfl
      rcases hor with ho | ho
      · exact hb'.2 ho
      · have := hb'.1.2; omega
    · have hi' : i = es.length := by
        have := (List.getElem?_eq_some_iff.1 hx).1
        simp at this; omega
      subst hi'
      rw [List.getElem?_append_right (Nat.le_refl _)] at hx
      rw [List.getElem?_append_right (by omega)] at hy
      simp [h1] at hx hy
      subst hx; subst hy
      refine hs.same fun b hb' => ?_
      have hbl := hb'.1
      have hbh := hb'.2
      have hne : v.ownBlock ≠ some b := fun he => by have := hown b he; omega
      refine ⟨(hg.block b (by omega) (fun he => hne he.symm)).trans (hb2.block b hbh), ⟨by omega, by have := hg.size; omega⟩, ?_⟩
      simp only [Value.ownBlock, ne_eq, Option.some.injEq]
      rintro rfl
      rcases hor with ho | ho
      · exact hne ho
      · omega
end Go.Proofs.YtkjppjhmejkidaaDoor

