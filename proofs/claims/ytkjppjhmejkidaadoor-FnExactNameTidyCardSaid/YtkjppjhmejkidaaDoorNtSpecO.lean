/-
  The specification's l3Tidy, of what binds one name.
-/
import Derived.Test.YtkjppjhmejkidaaDoorNtAll13
namespace Go.Proofs.YtkjppjhmejkidaaDoor
open Go.RowKit Go.Maps Go.WideMaps

set_option maxRecDepth 100000 in
set_option maxHeartbeats 4000000 in
theorem spec_one (ns fl : List ByteArray) (hns : ns.length = 28) (hnx : NextIs ns fl) (e : Ex) (ih : ∀ x ∈ e.kids, SpecTidy ns fl x) (h3 : e.kind ≠ 3) (hk : e.kind = 4 ∨ e.kind = 6) : SpecTidy ns fl e := by
  intro w s vf v vt l d hw hv hfv hl hto hsz hd1 hld
  obtain ⟨hd14, hkl, hbare⟩ := ok_has e d hsz
  have hparts := (sizeM_parts e d hsz).2
  obtain ⟨_, hkw, hw'⟩ := hw
  obtain ⟨a, cap, rfl⟩ := hv.slice
  have hl26 : l.length ≤ 26 := by omega
  have hll : (ns.take l.length).length = l.length := by simp; omega
  obtain ⟨at0, capt, rfl, _⟩ := hto.open
  rw [hll] at hto ⊢
  have h3' : (e.kind == 3) = false := by simpa using h3
  have ht0 : e.tail.toList = [] := bare_tail0 _ _ _ _ hbare (by omega)
  have hn1 : e.name.toList.isEmpty = false := by have := bare_name1 _ _ _ _ hbare (by omega); simpa using this
  obtain ⟨nm, hnm⟩ : ∃ x, x = ns[l.length] := ⟨_, rfl⟩
  have HT : Hid (tidyM ns e l = .mk e.kind nm e.tail e.num (tidyKids ns e l)) := by
    show _ = _
    rw [tidyM_eq, newName, if_neg h3, if_pos (by omega), newTail, if_neg (by omega), getD_of ns l.length (by omega), hnm]
  have hnx1 := hnx l.length (by omega)
  rw [← hnm] at hnx1
  have HB : ∀ i : Int, ns.take l.length ++ bindsL e.kind nm e.tail i = ns.take (l ++ e.bindsAt i).length := fun i => by
    have htl : tailIn e.kind i = false := by simp [tailIn]; omega
    rw [Ex.bindsAt, bindsL_eq, bindsL_eq, htl]
    cases nameIn e.kind i
    · simp
    · simp [hnm]
  clear hk h3 hnm
  have hbxW : Box5 (((w.alloc (.cells #[.int .i64 e.kind, .string e.name, .string e.tail, .int .i64 e.num, .slice a e.kids.length cap] 28)).alloc (.cells #[.int .i64 0, .string ⟨#[]⟩, .string ⟨#[]⟩, .int .i64 0, .slice none 0 0] 28)).alloc (.cells #[.int .i64 e.kind, .string e.name, .string e.tail, .int .i64 e.num, .slice none 0 0] 28)) (w.heap.size + 1 + 1) (.int .i64 e.kind) (.string e.name) (.string e.tail) (.int .i64 e.num) (.slice none 0 0) := by simpa using Box5.new ((w.alloc (.cells #[.int .i64 e.kind, .string e.name, .string e.tail, .int .i64 e.num, .slice a e.kids.length cap] 28)).alloc (.cells #[.int .i64 0, .string ⟨#[]⟩, .string ⟨#[]⟩, .int .i64 0, .slice none 0 0] 28)) (.int .i64 e.kind) (.string e.name) (.string e.tail) (.int .i64 e.num) (.slice none 0 0)
  have hEW : Box5 (((w.alloc (.cells #[.int .i64 e.kind, .string e.name, .string e.tail, .int .i64 e.num, .slice a e.kids.length cap] 28)).alloc (.cells #[.int .i64 0, .string ⟨#[]⟩, .string ⟨#[]⟩, .int .i64 0, .slice none 0 0] 28)).alloc (.cells #[.int .i64 e.kind, .string e.name, .string e.tail, .int .i64 e.num, .slice none 0 0] 28)) w.heap.size (.int .i64 e.kind) (.string e.name) (.string e.tail) (.int .i64 e.num) (.slice a e.kids.length cap) := ((Box5.new w _ _ _ _ _).keep (below_al0 _ _)).keep (below_al0 _ _)
  have hBW : Below w.heap.size w (((w.alloc (.cells #[.int .i64 e.kind, .string e.name, .string e.tail, .int .i64 e.num, .slice a e.kids.length cap] 28)).alloc (.cells #[.int .i64 0, .string ⟨#[]⟩, .string ⟨#[]⟩, .int .i64 0, .slice none 0 0] 28)).alloc (.cells #[.int .i64 e.kind, .string e.name, .string e.tail, .int .i64 e.num, .slice none 0 0] 28)) := below_al (below_two w _ _)
  have hGW : ((w.alloc (.cells #[.int .i64 e.kind, .string e.name, .string e.tail, .int .i64 e.num, .slice a e.kids.length cap] 28)).alloc (.cells #[.int .i64 0, .string ⟨#[]⟩, .string ⟨#[]⟩, .int .i64 0, .slice none 0 0] 28)).grownBy (((w.alloc (.cells #[.int .i64 e.kind, .string e.name, .string e.tail, .int .i64 e.num, .slice a e.kids.length cap] 28)).alloc (.cells #[.int .i64 0, .string ⟨#[]⟩, .string ⟨#[]⟩, .int .i64 0, .slice none 0 0] 28)).alloc (.cells #[.int .i64 e.kind, .string e.name, .string e.tail, .int .i64 e.num, .slice none 0 0] 28)) (some (w.heap.size + 1 + 1)) := World.grownBy_alloc _ _ _

  obtain ⟨es, hes⟩ : ∃ es, es = tidyKids ns e l := ⟨_, rfl⟩
  rw [← hes] at HT
  have hel : es.length = e.kids.length := by rw [hes]; exact tidyKids_length ns e l
  have HG : Hid (∀ (k : Nat) (h : k < e.kids.length) (h' : k < es.length), es[k] = tidyM ns e.kids[k] (l ++ e.bindsAt k)) := by
    subst hes; exact fun k h h' => tidyKids_get ns e l k h h'
  clear hes hkl hbare hsz hll
  go_enter Tryd.func13, Tryd.ntmps13
  go_wp2_with (go_at_call 25; refine (hnx1 _ _ (hfv.keep hBW)).mono ?_; rintro r w2 ⟨rfl, hb2⟩; have hbx2 := hbxW.keep hb2; obtain ⟨m0, m1, m2, m3, m4⟩ := hbx2.cells; have mf := hbx2.froz; obtain ⟨n0, n1, n2, n3, n4⟩ := (hEW.keep hb2).cells; have hG2 := (hGW.trans (but_of_below (w.heap.size + 1 + 1) hb2)).trans (but_one w2 (w.heap.size + 1 + 1) 1 (.string nm)); have hbx3 := hbx2.set1 (.string nm); have hB2 : Below w.heap.size w w2 := below_next hBW hb2)
  go_loopw [11] (fun i wr => ∃ (k : Nat) (ss : List Value) (vk : Value), k ≤ e.kids.length ∧ i = .int .i64 k ∧ Box5 wr (w.heap.size + 1 + 1) (.int .i64 e.kind) (.string nm) (.string e.tail) (.int .i64 e.num) vk ∧ Rows5 wr (w.heap.size + 1 + 1 + 1) (es.take k) ss vk ∧ ((w.alloc (.cells #[.int .i64 e.kind, .string e.name, .string e.tail, .int .i64 e.num, .slice a e.kids.length cap] 28)).alloc (.cells #[.int .i64 0, .string ⟨#[]⟩, .string ⟨#[]⟩, .int .i64 0, .slice none 0 0] 28)).grownBy wr (some (w.heap.size + 1 + 1))) (fun i _ => e.kids.length - (intOf i).toNat)
  case atStart => exact ⟨0, [], _, by omega, rfl, hbx3, Rows5.nil _ _, hG2⟩
  case round =>
    obtain ⟨k, ss, vk, hkl, rfl, hbx, hrw, hG⟩ := hrel
    have hE0 : Box5 ((w.alloc (.cells #[.int .i64 e.kind, .string e.name, .string e.tail, .int .i64 e.num, .slice a e.kids.length cap] 28)).alloc (.cells #[.int .i64 0, .string ⟨#[]⟩, .string ⟨#[]⟩, .int .i64 0, .slice none 0 0] 28)) w.heap.size (.int .i64 e.kind) (.string e.name) (.string e.tail) (.int .i64 e.num) (.slice a e.kids.length cap) := (Box5.new w _ _ _ _ _).keep (below_al0 _ _)
    have hEr := hE0.but hG (by omega)
    obtain ⟨r0, r1, r2, r3, r4⟩ := hEr.cells
    obtain ⟨o0, o1, o2, o3, o4⟩ := hbx.cells
    have hof := hbx.froz
    have holt := hbx.lt
    have hBw : Below w.heap.size w wr := (below_two w _ _).trans ⟨hG.os, hG.tape, hG.output, hG.size, fun x hx => hG.block x (by simp; omega) (by simp; omega)⟩
    by_cases hlt : k < e.kids.length
    · have hke : k < es.length := by omega
      obtain ⟨b, off, cap', s1, hS, hsl, hr, hlk⟩ := hv.at (List.getElem?_eq_getElem hlt)
      obtain ⟨rfl, rfl⟩ : a = some ⟨b, off, none⟩ ∧ cap = cap' := by simpa using hsl
      obtain ⟨c0, c1, c2, c3, c4⟩ := Ex.five (rangeAt_same (hBw.block b hS) hr)
      have hS' : b < w.heap.size := hS
      have HS : ∀ w', Below (w.heap.size + 1 + 1 + 1) wr w' → (w'.cell? ⟨w.heap.size, 0, none⟩ = some (.int .i64 e.kind) ∧ w'.cell? ⟨w.heap.size, 1, none⟩ = some (.string e.name) ∧ w'.cell? ⟨w.heap.size, 2, none⟩ = some (.string e.tail) ∧ w'.cell? ⟨w.heap.size, 3, none⟩ = some (.int .i64 e.num) ∧ w'.cell? ⟨w.heap.size, 4, none⟩ = some (.slice (some ⟨b, off, none⟩) e.kids.length cap) ∧ w'.cell? ⟨w.heap.size + 1 + 1, 0, none⟩ = some (.int .i64 e.kind) ∧ w'.cell? ⟨w.heap.size + 1 + 1, 1, none⟩ = some (.string nm) ∧ w'.cell? ⟨w.heap.size + 1 + 1, 2, none⟩ = some (.string e.tail) ∧ w'.cell? ⟨w.heap.size + 1 + 1, 3, none⟩ = some (.int .i64 e.num) ∧ w'.cell? ⟨w.heap.size + 1 + 1, 4, none⟩ = some vk ∧ w'.cell? ⟨b, off + k * 5, none⟩ = some (.int .i64 e.kids[k].kind) ∧ w'.cell? ⟨b, off + k * 5 + 1, none⟩ = some (.string e.kids[k].name) ∧ w'.cell? ⟨b, off + k * 5 + 2, none⟩ = some (.string e.kids[k].tail) ∧ w'.cell? ⟨b, off + k * 5 + 3, none⟩ = some (.int .i64 e.kids[k].num) ∧ w'.cell? ⟨b, off + k * 5 + 4, none⟩ = some s1) := fun w' hb' => by
        refine ⟨?_, ?_, ?_, ?_, ?_, ?_, ?_, ?_, ?_, ?_, ?_, ?_, ?_, ?_, ?_⟩
        all_goals (rw [hb'.cell (by dsimp only; omega)]; assumption)
      have HS' : ∀ w', Below wr.heap.size wr w' → (w'.cell? ⟨w.heap.size, 0, none⟩ = some (.int .i64 e.kind) ∧ w'.cell? ⟨w.heap.size, 1, none⟩ = some (.string e.name) ∧ w'.cell? ⟨w.heap.size, 2, none⟩ = some (.string e.tail) ∧ w'.cell? ⟨w.heap.size, 3, none⟩ = some (.int .i64 e.num) ∧ w'.cell? ⟨w.heap.size, 4, none⟩ = some (.slice (some ⟨b, off, none⟩) e.kids.length cap) ∧ w'.cell? ⟨w.heap.size + 1 + 1, 0, none⟩ = some (.int .i64 e.kind) ∧ w'.cell? ⟨w.heap.size + 1 + 1, 1, none⟩ = some (.string nm) ∧ w'.cell? ⟨w.heap.size + 1 + 1, 2, none⟩ = some (.string e.tail) ∧ w'.cell? ⟨w.heap.size + 1 + 1, 3, none⟩ = some (.int .i64 e.num) ∧ w'.cell? ⟨w.heap.size + 1 + 1, 4, none⟩ = some vk ∧ w'.cell? ⟨b, off + k * 5, none⟩ = some (.int .i64 e.kids[k].kind) ∧ w'.cell? ⟨b, off + k * 5 + 1, none⟩ = some (.string e.kids[k].name) ∧ w'.cell? ⟨b, off + k * 5 + 2, none⟩ = some (.string e.kids[k].tail) ∧ w'.cell? ⟨b, off + k * 5 + 3, none⟩ = some (.int .i64 e.kids[k].num) ∧ w'.cell? ⟨b, off + k * 5 + 4, none⟩ = some s1) := fun w' h => HS w' (h.mono (by omega))
      have hl0 := hl.keep hBw
      have ht0' := hto.keep hBw
      have hf0 := hfv.keep hBw
      have hlk' := hlk.keep hBw hBw.size
      have hsk := hparts e.kids[k] (List.getElem_mem hlt)
      have hbt := bindsL_two e.kind e.name e.tail k
      have hlen : ((l ++ e.bindsAt k).length : Int) ≤ 2 * (d + 1 - 1) := by simp [Ex.bindsAt]; omega
      have htkl : (es.take k).length = k := by simp; omega
      have hek60 : (es.take k).length ≤ 1048576 := by simp; omega
      obtain ⟨ek, hek⟩ : ∃ x, x = tidyM ns e.kids[k] (l ++ e.bindsAt k) := ⟨_, rfl⟩
      have HTK : Hid (es.take (k + 1) = es.take k ++ [ek]) := by
        show _ = _
        rw [List.take_succ_eq_append_getElem hke, hek, HG.out k hlt hke]
      have hih2 : ∀ (w : World) (s vf v vt : Value) (d : Int), Lies w (· < w.heap.size) e.kids[k].kids s → Env w fl vf → Env w (l ++ e.bindsAt k) v → Env w (ns.take (l ++ e.bindsAt k).length) vt → sizeM e.kids[k] d ≤ 60 → 1 ≤ d → ((l ++ e.bindsAt k).length : Int) ≤ 2 * (d - 1) →
        Calls Tryd.prog 13 #[e.kids[k].val s, vf, v, vt] w fun r w' => MadeL w w' ek r := fun w s vf v vt d h1 h2 h3 h4 h5 h6 h7 => by rw [hek]; exact ih e.kids[k] (List.getElem_mem hlt) w s vf v vt _ d (hw' e.kids[k] (List.getElem_mem hlt)) h1 h2 h3 h4 h5 h6 h7
      obtain ⟨i0, hi0, hiz, his, hib⟩ := exprInfo
      have hd1 : Below wr.heap.size wr wr.drew := (Below.refl _ _).drew
      have hi1 : (k : Int) < (e.kids.length : Int) := by omega
      clear hr hsl hek ih hw' hparts HG
      go_wp2_with fail
      refine wp_region_last (S := fun w' => w'.cell? ⟨w.heap.size, 0, none⟩ = some (.int .i64 e.kind) ∧ w'.cell? ⟨w.heap.size, 1, none⟩ = some (.string e.name) ∧ w'.cell? ⟨w.heap.size, 2, none⟩ = some (.string e.tail) ∧ w'.cell? ⟨w.heap.size, 3, none⟩ = some (.int .i64 e.num) ∧ w'.cell? ⟨w.heap.size, 4, none⟩ = some (.slice (some ⟨b, off, none⟩) e.kids.length cap) ∧ w'.cell? ⟨w.heap.size + 1 + 1, 0, none⟩ = some (.int .i64 e.kind) ∧ w'.cell? ⟨w.heap.size + 1 + 1, 1, none⟩ = some (.string nm) ∧ w'.cell? ⟨w.heap.size + 1 + 1, 2, none⟩ = some (.string e.tail) ∧ w'.cell? ⟨w.heap.size + 1 + 1, 3, none⟩ = some (.int .i64 e.num) ∧ w'.cell? ⟨w.heap.size + 1 + 1, 4, none⟩ = some vk ∧ w'.cell? ⟨b, off + k * 5, none⟩ = some (.int .i64 e.kids[k].kind) ∧ w'.cell? ⟨b, off + k * 5 + 1, none⟩ = some (.string e.kids[k].name) ∧ w'.cell? ⟨b, off + k * 5 + 2, none⟩ = some (.string e.kids[k].tail) ∧ w'.cell? ⟨b, off + k * 5 + 3, none⟩ = some (.int .i64 e.kids[k].num) ∧ w'.cell? ⟨b, off + k * 5 + 4, none⟩ = some s1) (by kernel_rfl) (by kernel_rfl) rfl (HS _ (hd1.mono (by omega))) (fun hHeld => ?_)
      simp only [killLast, killL]
      (refine wpAnyH_take (i := 0) (oi := _) (v := ?v120) rfl (by kernel_rfl) (by kernel_rfl) (by kernel_rfl) (fun _ _ _ h => h) (Or.inl ⟨by rfl, ?hy120⟩) hHeld ?rest120; (case hy120 => (intro w' hSw; obtain ⟨x0, x1, x2, x3, x4, x5, x6, x7, x8, x9, y0, y1, y2, y3, y4⟩ := hSw; (try simp only [List.getElem_toArray]); (try simp only [List.getElem_cons_succ]); (try simp only [List.getElem_cons_zero]); go_simp; rfl)); (try simp only [List.getElem_toArray]); (try simp only [List.getElem_cons_succ]); (try simp only [List.getElem_cons_zero]); simp only [Act.put]; (try simp only [List.setIfInBounds_toArray]); (try simp only [List.set_cons_succ]); (try simp only [List.set_cons_zero]))
      (refine wpAnyH_take (i := 1) (oi := _) (v := ?v121) rfl (by kernel_rfl) (by kernel_rfl) (by kernel_rfl) (fun _ _ _ h => h) (Or.inl ⟨by rfl, ?hy121⟩) hHeld ?rest121; (case hy121 => (intro w' hSw; obtain ⟨x0, x1, x2, x3, x4, x5, x6, x7, x8, x9, y0, y1, y2, y3, y4⟩ := hSw; (try simp only [List.getElem_toArray]); (try simp only [List.getElem_cons_succ]); (try simp only [List.getElem_cons_zero]); go_simp; rfl)); (try simp only [List.getElem_toArray]); (try simp only [List.getElem_cons_succ]); (try simp only [List.getElem_cons_zero]); simp only [Act.put]; (try simp only [List.setIfInBounds_toArray]); (try simp only [List.set_cons_succ]); (try simp only [List.set_cons_zero]))
      (refine wpAnyH_take (i := 2) (oi := _) (v := ?v122) rfl (by kernel_rfl) (by kernel_rfl) (by kernel_rfl) (fun _ _ _ h => h) (Or.inl ⟨by rfl, ?hy122⟩) hHeld ?rest122; (case hy122 => (intro w' hSw; obtain ⟨x0, x1, x2, x3, x4, x5, x6, x7, x8, x9, y0, y1, y2, y3, y4⟩ := hSw; (try simp only [List.getElem_toArray]); (try simp only [List.getElem_cons_succ]); (try simp only [List.getElem_cons_zero]); go_simp; rfl)); (try simp only [List.getElem_toArray]); (try simp only [List.getElem_cons_succ]); (try simp only [List.getElem_cons_zero]); simp only [Act.put]; (try simp only [List.setIfInBounds_toArray]); (try simp only [List.set_cons_succ]); (try simp only [List.set_cons_zero]))
      (refine wpAnyH_take (i := 3) (oi := _) (v := ?v123) rfl (by kernel_rfl) (by kernel_rfl) (by kernel_rfl) (fun _ _ _ h => h) (Or.inl ⟨by rfl, ?hy123⟩) hHeld ?rest123; (case hy123 => (intro w' hSw; obtain ⟨x0, x1, x2, x3, x4, x5, x6, x7, x8, x9, y0, y1, y2, y3, y4⟩ := hSw; (try simp only [List.getElem_toArray]); (try simp only [List.getElem_cons_succ]); (try simp only [List.getElem_cons_zero]); go_simp; rfl)); (try simp only [List.getElem_toArray]); (try simp only [List.getElem_cons_succ]); (try simp only [List.getElem_cons_zero]); simp only [Act.put]; (try simp only [List.setIfInBounds_toArray]); (try simp only [List.set_cons_succ]); (try simp only [List.set_cons_zero]))
      (refine wpAnyH_take (i := 4) (oi := _) (v := ?v124) rfl (by kernel_rfl) (by kernel_rfl) (by kernel_rfl) (fun _ _ _ h => h) (Or.inl ⟨by rfl, ?hy124⟩) hHeld ?rest124; (case hy124 => (intro w' hSw; obtain ⟨x0, x1, x2, x3, x4, x5, x6, x7, x8, x9, y0, y1, y2, y3, y4⟩ := hSw; (try simp only [List.getElem_toArray]); (try simp only [List.getElem_cons_succ]); (try simp only [List.getElem_cons_zero]); go_simp; rfl)); (try simp only [List.getElem_toArray]); (try simp only [List.getElem_cons_succ]); (try simp only [List.getElem_cons_zero]); simp only [Act.put]; (try simp only [List.setIfInBounds_toArray]); (try simp only [List.set_cons_succ]); (try simp only [List.set_cons_zero]))
      (refine wpAnyH_take (i := 5) (oi := _) (v := ?v125) rfl (by kernel_rfl) (by kernel_rfl) (by kernel_rfl) (fun _ _ _ h => h) (Or.inl ⟨by rfl, ?hy125⟩) hHeld ?rest125; (case hy125 => (intro w' hSw; obtain ⟨x0, x1, x2, x3, x4, x5, x6, x7, x8, x9, y0, y1, y2, y3, y4⟩ := hSw; (try simp only [List.getElem_toArray]); (try simp only [List.getElem_cons_succ]); (try simp only [List.getElem_cons_zero]); go_simp; rfl)); (try simp only [List.getElem_toArray]); (try simp only [List.getElem_cons_succ]); (try simp only [List.getElem_cons_zero]); simp only [Act.put]; (try simp only [List.setIfInBounds_toArray]); (try simp only [List.set_cons_succ]); (try simp only [List.set_cons_zero]))
      (refine wpAnyH_take (i := 6) (oi := _) (v := ?v126) rfl (by kernel_rfl) (by kernel_rfl) (by kernel_rfl) (fun _ _ _ h => h) (Or.inl ⟨by rfl, ?hy126⟩) hHeld ?rest126; (case hy126 => (intro w' hSw; obtain ⟨x0, x1, x2, x3, x4, x5, x6, x7, x8, x9, y0, y1, y2, y3, y4⟩ := hSw; (try simp only [List.getElem_toArray]); (try simp only [List.getElem_cons_succ]); (try simp only [List.getElem_cons_zero]); go_simp; rfl)); (try simp only [List.getElem_toArray]); (try simp only [List.getElem_cons_succ]); (try simp only [List.getElem_cons_zero]); simp only [Act.put]; (try simp only [List.setIfInBounds_toArray]); (try simp only [List.set_cons_succ]); (try simp only [List.set_cons_zero]))
      (refine wpAnyH_take (i := 7) (oi := _) (v := ?v127) rfl (by kernel_rfl) (by kernel_rfl) (by kernel_rfl) (fun _ _ _ h => h) (Or.inl ⟨by rfl, ?hy127⟩) hHeld ?rest127; (case hy127 => (intro w' hSw; obtain ⟨x0, x1, x2, x3, x4, x5, x6, x7, x8, x9, y0, y1, y2, y3, y4⟩ := hSw; (try simp only [List.getElem_toArray]); (try simp only [List.getElem_cons_succ]); (try simp only [List.getElem_cons_zero]); go_simp; rfl)); (try simp only [List.getElem_toArray]); (try simp only [List.getElem_cons_succ]); (try simp only [List.getElem_cons_zero]); simp only [Act.put]; (try simp only [List.setIfInBounds_toArray]); (try simp only [List.set_cons_succ]); (try simp only [List.set_cons_zero]))
      (refine wpAnyH_take (i := 9) (oi := _) (v := ?v128) rfl (by kernel_rfl) (by kernel_rfl) (by kernel_rfl) (fun _ _ _ h => h) (Or.inl ⟨by rfl, ?hy128⟩) hHeld ?rest128; (case hy128 => (intro w' hSw; obtain ⟨x0, x1, x2, x3, x4, x5, x6, x7, x8, x9, y0, y1, y2, y3, y4⟩ := hSw; (try simp only [List.getElem_toArray]); (try simp only [List.getElem_cons_succ]); (try simp only [List.getElem_cons_zero]); go_simp; rfl)); (try simp only [List.getElem_toArray]); (try simp only [List.getElem_cons_succ]); (try simp only [List.getElem_cons_zero]); simp only [Act.put]; (try simp only [List.setIfInBounds_toArray]); (try simp only [List.set_cons_succ]); (try simp only [List.set_cons_zero]))
      (refine wpAnyH_take (i := 11) (oi := _) (v := ?v129) rfl (by kernel_rfl) (by kernel_rfl) (by kernel_rfl) (fun _ _ _ h => h) (Or.inl ⟨by rfl, ?hy129⟩) hHeld ?rest129; (case hy129 => (intro w' hSw; obtain ⟨x0, x1, x2, x3, x4, x5, x6, x7, x8, x9, y0, y1, y2, y3, y4⟩ := hSw; (try simp only [List.getElem_toArray]); (try simp only [List.getElem_cons_succ]); (try simp only [List.getElem_cons_zero]); go_simp; rfl)); (try simp only [List.getElem_toArray]); (try simp only [List.getElem_cons_succ]); (try simp only [List.getElem_cons_zero]); simp only [Act.put]; (try simp only [List.setIfInBounds_toArray]); (try simp only [List.set_cons_succ]); (try simp only [List.set_cons_zero]))
      (refine wpAnyH_take (i := 12) (oi := _) (v := ?v130) rfl (by kernel_rfl) (by kernel_rfl) (by kernel_rfl) (fun _ _ _ h => h) (Or.inl ⟨by rfl, ?hy130⟩) hHeld ?rest130; (case hy130 => (intro w' hSw; obtain ⟨x0, x1, x2, x3, x4, x5, x6, x7, x8, x9, y0, y1, y2, y3, y4⟩ := hSw; (try simp only [List.getElem_toArray]); (try simp only [List.getElem_cons_succ]); (try simp only [List.getElem_cons_zero]); go_simp; rfl)); (try simp only [List.getElem_toArray]); (try simp only [List.getElem_cons_succ]); (try simp only [List.getElem_cons_zero]); simp only [Act.put]; (try simp only [List.setIfInBounds_toArray]); (try simp only [List.set_cons_succ]); (try simp only [List.set_cons_zero]))
      (refine wpAnyH_take (i := 16) (oi := _) (v := ?v131) rfl (by kernel_rfl) (by kernel_rfl) (by kernel_rfl) (fun _ _ _ h => h) (Or.inl ⟨by rfl, ?hy131⟩) hHeld ?rest131; (case hy131 => (intro w' hSw; obtain ⟨x0, x1, x2, x3, x4, x5, x6, x7, x8, x9, y0, y1, y2, y3, y4⟩ := hSw; (try simp only [List.getElem_toArray]); (try simp only [List.getElem_cons_succ]); (try simp only [List.getElem_cons_zero]); go_simp; rfl)); (try simp only [List.getElem_toArray]); (try simp only [List.getElem_cons_succ]); (try simp only [List.getElem_cons_zero]); simp only [Act.put]; (try simp only [List.setIfInBounds_toArray]); (try simp only [List.set_cons_succ]); (try simp only [List.set_cons_zero]))
      (refine wpAnyH_take (i := 18) (oi := _) (v := ?v132) rfl (by kernel_rfl) (by kernel_rfl) (by kernel_rfl) (fun _ _ _ h => h) (Or.inl ⟨by rfl, ?hy132⟩) hHeld ?rest132; (case hy132 => (intro w' hSw; obtain ⟨x0, x1, x2, x3, x4, x5, x6, x7, x8, x9, y0, y1, y2, y3, y4⟩ := hSw; (try simp only [List.getElem_toArray]); (try simp only [List.getElem_cons_succ]); (try simp only [List.getElem_cons_zero]); go_simp; rfl)); (try simp only [List.getElem_toArray]); (try simp only [List.getElem_cons_succ]); (try simp only [List.getElem_cons_zero]); simp only [Act.put]; (try simp only [List.setIfInBounds_toArray]); (try simp only [List.set_cons_succ]); (try simp only [List.set_cons_zero]))
      (refine wpAnyH_take (i := 19) (oi := _) (v := ?v133) rfl (by kernel_rfl) (by kernel_rfl) (by kernel_rfl) (fun _ _ _ h => h) (Or.inl ⟨by rfl, ?hy133⟩) hHeld ?rest133; (case hy133 => (intro w' hSw; obtain ⟨x0, x1, x2, x3, x4, x5, x6, x7, x8, x9, y0, y1, y2, y3, y4⟩ := hSw; (try simp only [List.getElem_toArray]); (try simp only [List.getElem_cons_succ]); (try simp only [List.getElem_cons_zero]); go_simp; rfl)); (try simp only [List.getElem_toArray]); (try simp only [List.getElem_cons_succ]); (try simp only [List.getElem_cons_zero]); simp only [Act.put]; (try simp only [List.setIfInBounds_toArray]); (try simp only [List.set_cons_succ]); (try simp only [List.set_cons_zero]))
      refine wpAnyH_ready (rs := [8, 15]) (by kernel_rfl) (by simp) ?_
      refine AllReadyH.cons (o := _) rfl (fun K hK => ?_) ?_
      · (try simp only [List.getElem_toArray]); (try simp only [List.getElem_cons_succ]); (try simp only [List.getElem_cons_zero])
        go_simp
        refine hK.out _ _ (HS' _ (by first | assumption | exact below_al (by assumption) | exact (below_al0 _ _).drew | exact (below_al (below_al0 _ _)).drew)) (fun hHeld => ?_)
        clear hK K
        (try simp only [Act.put]); (try simp only [List.setIfInBounds_toArray]); (try simp only [List.set_cons_succ]); (try simp only [List.set_cons_zero])
        refine wpAnyH_ready (rs := [10, 15]) (by kernel_rfl) (by simp) ?_
        refine AllReadyH.cons (o := _) rfl (fun K hK => ?_) ?_
        · (try simp only [List.getElem_toArray]); (try simp only [List.getElem_cons_succ]); (try simp only [List.getElem_cons_zero])
          refine step_any rfl (wp_append_app rfl (.tmp 65) (.tmp 66) rfl _ [] l _ _ rfl rfl (Or.inr ⟨_, rfl, rfl⟩) (Env.keep hl0 (by first | assumption | exact below_al (by assumption) | exact (below_al0 _ _).drew | exact (below_al (below_al0 _ _)).drew)) (by simp) (by omega) (Nat.le_refl _) ?_)
          intro v1 w1 ha1 hb1
          have hz1 := hb1.size
          have hzr := below_base (w := wr) (by first | assumption | exact below_al (by assumption) | exact (below_al0 _ _).drew | exact (below_al (below_al0 _ _)).drew) hb1
          have hc1 : Below wr.heap.size wr w1 := below_next (by first | assumption | exact below_al (by assumption) | exact (below_al0 _ _).drew | exact (below_al (below_al0 _ _)).drew) hb1
          refine hK.out _ _ (HS' _ hc1) (fun hHeld => ?_)
          clear hK K
          (try simp only [Act.put]); (try simp only [List.setIfInBounds_toArray]); (try simp only [List.set_cons_succ]); (try simp only [List.set_cons_zero])
          refine wpAnyH_ready (rs := [13, 15]) (by kernel_rfl) (by simp) ?_
          refine AllReadyH.cons (o := _) rfl (fun K hK => ?_) ?_
          · (try simp only [List.getElem_toArray]); (try simp only [List.getElem_cons_succ]); (try simp only [List.getElem_cons_zero])
            go_simp
            refine (spec_l3Binds _ _ _ _ _ _ _).mono ?_
            rintro r w2 ⟨v2, rfl, he2, hb2⟩
            have hb12 : Below w1.heap.size w1 w2 := (by first | exact hb2 | exact below_pre hb2)
            have hc2 := below_next hc1 hb12
            have hv1 := App.keep ha1 hb12
            have hz2 := Nat.le_trans hz1 hb12.size
            try (go_wp2_with fail)
            refine hK.out _ _ (HS' _ hc2) (fun hHeld => ?_)
            clear hK K
            (try simp only [Act.put]); (try simp only [List.setIfInBounds_toArray]); (try simp only [List.set_cons_succ]); (try simp only [List.set_cons_zero])
            refine wpAnyH_ready (rs := [14, 15]) (by kernel_rfl) (by simp) ?_
            refine AllReadyH.cons (o := _) rfl (fun K hK => ?_) ?_
            · (try simp only [List.getElem_toArray]); (try simp only [List.getElem_cons_succ]); (try simp only [List.getElem_cons_zero])
              refine step_any rfl (wp_append_app rfl (.tmp 67) (.tmp 70) rfl _ l (e.bindsAt k) _ _ rfl rfl (by first | exact hv1 | exact App.keep hv1 (below_al0 _ _)) (by first | exact he2 | exact Env.keep he2 (below_al0 _ _)) (by omega) (by have := bindsL_two e.kind e.name e.tail k; simp only [Ex.bindsAt]; omega) (by first | exact hz2 | exact Nat.le_trans hz2 (size_al _ _)) ?_)
              intro v3 w3 ha3 hb3
              have hc3 : Below wr.heap.size wr w3 := below_nextB (by first | assumption | exact below_al (by assumption)) hzr hb3
              have he3 : Env w3 (l ++ e.bindsAt k) v3 := App.base ha3 (Nat.zero_le _)
              refine hK.out _ _ (HS' _ hc3) (fun hHeld => ?_)
              clear hK K
              (try simp only [Act.put]); (try simp only [List.setIfInBounds_toArray]); (try simp only [List.set_cons_succ]); (try simp only [List.set_cons_zero])
              refine wpAnyH_ready (rs := [15]) (by kernel_rfl) (by simp) ?_
              refine AllReadyH.cons (o := _) rfl (fun K hK => ?_) ?_
              · (try simp only [List.getElem_toArray]); (try simp only [List.getElem_cons_succ]); (try simp only [List.getElem_cons_zero])
                go_simp
                refine hK.out _ _ (HS' _ (by first | assumption | exact below_al (by assumption) | exact (below_al0 _ _).drew | exact (below_al (below_al0 _ _)).drew)) (fun hHeld => ?_)
                clear hK K
                (try simp only [Act.put]); (try simp only [List.setIfInBounds_toArray]); (try simp only [List.set_cons_succ]); (try simp only [List.set_cons_zero])
                refine wpAnyH_ready (rs := [17]) (by kernel_rfl) (by simp) ?_
                refine AllReadyH.cons (o := _) rfl (fun K hK => ?_) ?_
                · (try simp only [List.getElem_toArray]); (try simp only [List.getElem_cons_succ]); (try simp only [List.getElem_cons_zero])
                  refine step_any rfl (wp_append_app rfl (.tmp 72) (.tmp 73) rfl _ [] (ns.take l.length) _ _ rfl rfl (Or.inr ⟨_, rfl, rfl⟩) (Env.keep ht0' (by first | assumption | exact below_al (by assumption))) (by simp) (by simp; omega) (Nat.le_refl _) ?_)
                  intro v4 w4 ha4 hb4
                  have hz4 := hb4.size
                  have hzr4 := below_base (w := wr) (by first | assumption | exact below_al (by assumption)) hb4
                  have hc4 : Below wr.heap.size wr w4 := below_next (by first | assumption | exact below_al (by assumption)) hb4
                  refine hK.out _ _ (HS' _ hc4) (fun hHeld => ?_)
                  clear hK K
                  (try simp only [Act.put]); (try simp only [List.setIfInBounds_toArray]); (try simp only [List.set_cons_succ]); (try simp only [List.set_cons_zero])
                  refine wpAnyH_ready (rs := [20]) (by kernel_rfl) (by simp) ?_
                  refine AllReadyH.cons (o := _) rfl (fun K hK => ?_) ?_
                  · (try simp only [List.getElem_toArray]); (try simp only [List.getElem_cons_succ]); (try simp only [List.getElem_cons_zero])
                    go_simp
                    refine (spec_l3Binds _ _ _ _ _ _ _).mono ?_
                    rintro r w5 ⟨v5, rfl, he5, hb5⟩
                    have hc5 := below_next hc4 hb5
                    have hv4 := App.keep ha4 hb5
                    have hz5 := Nat.le_trans hz4 hb5.size
                    try (go_wp2_with fail)
                    refine hK.out _ _ (HS' _ hc5) (fun hHeld => ?_)
                    clear hK K
                    (try simp only [Act.put]); (try simp only [List.setIfInBounds_toArray]); (try simp only [List.set_cons_succ]); (try simp only [List.set_cons_zero])
                    refine wpAnyH_ready (rs := [21]) (by kernel_rfl) (by simp) ?_
                    refine AllReadyH.cons (o := _) rfl (fun K hK => ?_) ?_
                    · (try simp only [List.getElem_toArray]); (try simp only [List.getElem_cons_succ]); (try simp only [List.getElem_cons_zero])
                      refine step_any rfl (wp_append_app rfl (.tmp 74) (.tmp 77) rfl _ (ns.take l.length) (bindsL e.kind nm e.tail k) _ _ rfl rfl hv4 he5 (by simp; omega) (by have := bindsL_two e.kind nm e.tail k; omega) hz5 ?_)
                      intro v6 w6 ha6 hb6
                      have hc6 : Below wr.heap.size wr w6 := below_nextB (by assumption) hzr4 hb6
                      have hch := (hb4.trans (hb5.mono hz4)).trans hb6
                      have he36 : Env w6 (l ++ e.bindsAt k) v3 := (by first | exact Env.keep he3 hch | exact Env.keep (Env.keep he3 (below_al0 _ _)) hch)
                      refine hK.out _ _ (HS' _ hc6) (fun hHeld => ?_)
                      clear hK K
                      (try simp only [Act.put]); (try simp only [List.setIfInBounds_toArray]); (try simp only [List.set_cons_succ]); (try simp only [List.set_cons_zero])
                      refine wpAnyH_ready (rs := [22]) (by kernel_rfl) (by simp) ?_
                      refine AllReadyH.cons (o := _) rfl (fun K hK => ?_) ?_
                      · (try simp only [List.getElem_toArray]); (try simp only [List.getElem_cons_succ]); (try simp only [List.getElem_cons_zero])
                        go_simp
                        refine (hih2 _ _ _ _ _ (d + 1) (hlk'.keep hc6 hc6.size) (hf0.keep hc6) he36 (by rw [← HB k]; exact App.base ha6 (Nat.zero_le _)) hsk (by omega) hlen).mono ?_
                        rintro r w7 ⟨s7, rfl, hl7, hb7⟩
                        have hc7 := below_next hc6 hb7
                        obtain ⟨a7, cap7, rfl⟩ := hl7.slice
                        have hz7 := hc7.size
                        try (go_wp2_with fail)
                        refine hK.out _ _ (HS' _ hc7) (fun hHeld => ?_)
                        clear hK K
                        (try simp only [Act.put]); (try simp only [List.setIfInBounds_toArray]); (try simp only [List.set_cons_succ]); (try simp only [List.set_cons_zero])
                        refine wpAnyH_ready (rs := [23]) (by kernel_rfl) (by simp) ?_
                        refine AllReadyH.cons (o := _) rfl (fun K hK => ?_) ?_
                        · (try simp only [List.getElem_toArray]); (try simp only [List.getElem_cons_succ]); (try simp only [List.getElem_cons_zero])
                          go_simp
                          have hc7a : Below wr.heap.size wr (w7.alloc (.cells #[.int .i64 ek.kind, .string ek.name, .string ek.tail, .int .i64 ek.num, .slice a7 ek.kids.length cap7] 28)) := below_al hc7
                          have hrw7 := hrw.keep hc7a
                          refine hK.out _ _ (HS' _ (below_al hc7)) (fun hHeld => ?_)
                          clear hK K
                          (try simp only [Act.put]); (try simp only [List.setIfInBounds_toArray]); (try simp only [List.set_cons_succ]); (try simp only [List.set_cons_zero])
                          refine wpAnyH_ready (rs := [24]) (by kernel_rfl) (by simp) ?_
                          refine AllReadyH.cons (o := _) rfl (fun K hK => ?_) ?_
                          · (try simp only [List.getElem_toArray]); (try simp only [List.getElem_cons_succ]); (try simp only [List.getElem_cons_zero])
                            refine step_any rfl (wp_append_lies _ (.tmp 58) (.tmp 80) 26 rfl (w.heap.size + 1 + 1 + 1) 28 i0 _ 5 72 Tryd.underlying26 hi0 hiz his hib rfl (by decide) vk (es.take k).length (rowCells (es.take k) ss) rfl hrw7.2.1 ⟨w7.heap.size, 0, none⟩ 1 1 (ek.cells (.slice a7 ek.kids.length cap7)) rfl rfl (cells_new w7 ek _) (cells_one ek _ _ _) (by omega) (by have := hek60; unfold maxLen; omega) (by have := hek60; omega) (by simp; omega) _ rfl ?_)
                            intro g8 cap8 w8 hO8 hG8 hor8 hlt8
                            have hc8 : Below (w.heap.size + 1 + 1 + 1) wr w8 := (hc7a.mono (by omega)).trans ⟨hG8.os, hG8.tape, hG8.output, hG8.size, fun x hx => hG8.block x (by simp; omega) (fun he => by have := (hrw7.2.1.lt x he.symm).1; omega)⟩
                            have hrw8 := Rows5.next (lo := w6.heap.size) hrw hc7 (below_al0 w7 (.cells #[.int .i64 ek.kind, .string ek.name, .string ek.tail, .int .i64 ek.num, .slice a7 ek.kids.length cap7] 28)) hc6.size (by have := hc6.size; omega) hl7 hO8 hG8 hor8
                            rw [htkl] at hrw8
                            have hbx8 : Box5 w8 (w.heap.size + 1 + 1) (.int .i64 e.kind) (.string nm) (.string e.tail) (.int .i64 e.num) vk := (by unfold Box5; rw [hc8.block _ (by omega)]; exact hbx)
                            obtain ⟨z0, z1, z2, z3, z4⟩ := hbx8.cells
                            have hzf := hbx8.froz 4
                            refine hK.out _ _ (HS _ hc8) (fun hHeld => ?_)
                            clear hK K
                            (try simp only [Act.put]); (try simp only [List.setIfInBounds_toArray]); (try simp only [List.set_cons_succ]); (try simp only [List.set_cons_zero])
                            (refine wpAnyH_take (i := 25) (oi := _) (v := ?v134) rfl (by kernel_rfl) (by kernel_rfl) (by kernel_rfl) (fun _ _ _ h => h) (Or.inl ⟨by rfl, ?hy134⟩) hHeld ?rest134; (case hy134 => (intro w' hSw; obtain ⟨x0, x1, x2, x3, x4, x5, x6, x7, x8, x9, y0, y1, y2, y3, y4⟩ := hSw; (try simp only [List.getElem_toArray]); (try simp only [List.getElem_cons_succ]); (try simp only [List.getElem_cons_zero]); go_simp; rfl)); (try simp only [List.getElem_toArray]); (try simp only [List.getElem_cons_succ]); (try simp only [List.getElem_cons_zero]); simp only [Act.put]; (try simp only [List.setIfInBounds_toArray]); (try simp only [List.set_cons_succ]); (try simp only [List.set_cons_zero]))
                            (refine wpAnyH_take (i := 26) (oi := _) (v := .bool true) rfl (by kernel_rfl) (by kernel_rfl) (by kernel_rfl) (fun _ _ _ h => h) (Or.inl ⟨by rfl, fun _ _ => by rfl⟩) hHeld ?_; (try simp only [List.getElem_toArray]); (try simp only [List.getElem_cons_succ]); (try simp only [List.getElem_cons_zero]); simp only [Act.put])
                            refine wpAnyH_done (by kernel_rfl) ?_ _
                            show Oper.wp _ _ _ _ _ _
                            go_simp
                            go_wp2_with fail
                            go_roundw
                            case rel => exact ⟨k + 1, _, _, by omega, by go_num, hbx8.set4 _, by rw [HTK.out]; exact hrw8.but (but_one w8 (w.heap.size + 1 + 1) 4 _) (by omega), grow_next hG hc8 (by simp)⟩
                            case measure => simp [intOf]; omega
                          exact AllReadyH.nil
                        exact AllReadyH.nil
                      exact AllReadyH.nil
                    exact AllReadyH.nil
                  exact AllReadyH.nil
                exact AllReadyH.nil
              exact AllReadyH.nil
            refine AllReadyH.cons (o := _) rfl (fun K hK => ?_) ?_
            · (try simp only [List.getElem_toArray]); (try simp only [List.getElem_cons_succ]); (try simp only [List.getElem_cons_zero])
              go_simp
              refine hK.out _ _ (HS' _ (by first | assumption | exact below_al (by assumption) | exact (below_al0 _ _).drew | exact (below_al (below_al0 _ _)).drew)) (fun hHeld => ?_)
              clear hK K
              (try simp only [Act.put]); (try simp only [List.setIfInBounds_toArray]); (try simp only [List.set_cons_succ]); (try simp only [List.set_cons_zero])
              refine wpAnyH_ready (rs := [14]) (by kernel_rfl) (by simp) ?_
              refine AllReadyH.cons (o := _) rfl (fun K hK => ?_) ?_
              · (try simp only [List.getElem_toArray]); (try simp only [List.getElem_cons_succ]); (try simp only [List.getElem_cons_zero])
                refine step_any rfl (wp_append_app rfl (.tmp 67) (.tmp 70) rfl _ l (e.bindsAt k) _ _ rfl rfl (by first | exact hv1 | exact App.keep hv1 (below_al0 _ _)) (by first | exact he2 | exact Env.keep he2 (below_al0 _ _)) (by omega) (by have := bindsL_two e.kind e.name e.tail k; simp only [Ex.bindsAt]; omega) (by first | exact hz2 | exact Nat.le_trans hz2 (size_al _ _)) ?_)
                intro v3 w3 ha3 hb3
                have hc3 : Below wr.heap.size wr w3 := below_nextB (by first | assumption | exact below_al (by assumption)) hzr hb3
                have he3 : Env w3 (l ++ e.bindsAt k) v3 := App.base ha3 (Nat.zero_le _)
                refine hK.out _ _ (HS' _ hc3) (fun hHeld => ?_)
                clear hK K
                (try simp only [Act.put]); (try simp only [List.setIfInBounds_toArray]); (try simp only [List.set_cons_succ]); (try simp only [List.set_cons_zero])
                refine wpAnyH_ready (rs := [17]) (by kernel_rfl) (by simp) ?_
                refine AllReadyH.cons (o := _) rfl (fun K hK => ?_) ?_
                · (try simp only [List.getElem_toArray]); (try simp only [List.getElem_cons_succ]); (try simp only [List.getElem_cons_zero])
                  refine step_any rfl (wp_append_app rfl (.tmp 72) (.tmp 73) rfl _ [] (ns.take l.length) _ _ rfl rfl (Or.inr ⟨_, rfl, rfl⟩) (Env.keep ht0' (by first | assumption | exact below_al (by assumption))) (by simp) (by simp; omega) (Nat.le_refl _) ?_)
                  intro v4 w4 ha4 hb4
                  have hz4 := hb4.size
                  have hzr4 := below_base (w := wr) (by first | assumption | exact below_al (by assumption)) hb4
                  have hc4 : Below wr.heap.size wr w4 := below_next (by first | assumption | exact below_al (by assumption)) hb4
                  refine hK.out _ _ (HS' _ hc4) (fun hHeld => ?_)
                  clear hK K
                  (try simp only [Act.put]); (try simp only [List.setIfInBounds_toArray]); (try simp only [List.set_cons_succ]); (try simp only [List.set_cons_zero])
                  refine wpAnyH_ready (rs := [20]) (by kernel_rfl) (by simp) ?_
                  refine AllReadyH.cons (o := _) rfl (fun K hK => ?_) ?_
                  · (try simp only [List.getElem_toArray]); (try simp only [List.getElem_cons_succ]); (try simp only [List.getElem_cons_zero])
                    go_simp
                    refine (spec_l3Binds _ _ _ _ _ _ _).mono ?_
                    rintro r w5 ⟨v5, rfl, he5, hb5⟩
                    have hc5 := below_next hc4 hb5
                    have hv4 := App.keep ha4 hb5
                    have hz5 := Nat.le_trans hz4 hb5.size
                    try (go_wp2_with fail)
                    refine hK.out _ _ (HS' _ hc5) (fun hHeld => ?_)
                    clear hK K
                    (try simp only [Act.put]); (try simp only [List.setIfInBounds_toArray]); (try simp only [List.set_cons_succ]); (try simp only [List.set_cons_zero])
                    refine wpAnyH_ready (rs := [21]) (by kernel_rfl) (by simp) ?_
                    refine AllReadyH.cons (o := _) rfl (fun K hK => ?_) ?_
                    · (try simp only [List.getElem_toArray]); (try simp only [List.getElem_cons_succ]); (try simp only [List.getElem_cons_zero])
                      refine step_any rfl (wp_append_app rfl (.tmp 74) (.tmp 77) rfl _ (ns.take l.length) (bindsL e.kind nm e.tail k) _ _ rfl rfl hv4 he5 (by simp; omega) (by have := bindsL_two e.kind nm e.tail k; omega) hz5 ?_)
                      intro v6 w6 ha6 hb6
                      have hc6 : Below wr.heap.size wr w6 := below_nextB (by assumption) hzr4 hb6
                      have hch := (hb4.trans (hb5.mono hz4)).trans hb6
                      have he36 : Env w6 (l ++ e.bindsAt k) v3 := (by first | exact Env.keep he3 hch | exact Env.keep (Env.keep he3 (below_al0 _ _)) hch)
                      refine hK.out _ _ (HS' _ hc6) (fun hHeld => ?_)
                      clear hK K
                      (try simp only [Act.put]); (try simp only [List.setIfInBounds_toArray]); (try simp only [List.set_cons_succ]); (try simp only [List.set_cons_zero])
                      refine wpAnyH_ready (rs := [22]) (by kernel_rfl) (by simp) ?_
                      refine AllReadyH.cons (o := _) rfl (fun K hK => ?_) ?_
                      · (try simp only [List.getElem_toArray]); (try simp only [List.getElem_cons_succ]); (try simp only [List.getElem_cons_zero])
                        go_simp
                        refine (hih2 _ _ _ _ _ (d + 1) (hlk'.keep hc6 hc6.size) (hf0.keep hc6) he36 (by rw [← HB k]; exact App.base ha6 (Nat.zero_le _)) hsk (by omega) hlen).mono ?_
                        rintro r w7 ⟨s7, rfl, hl7, hb7⟩
                        have hc7 := below_next hc6 hb7
                        obtain ⟨a7, cap7, rfl⟩ := hl7.slice
                        have hz7 := hc7.size
                        try (go_wp2_with fail)
                        refine hK.out _ _ (HS' _ hc7) (fun hHeld => ?_)
                        clear hK K
                        (try simp only [Act.put]); (try simp only [List.setIfInBounds_toArray]); (try simp only [List.set_cons_succ]); (try simp only [List.set_cons_zero])
                        refine wpAnyH_ready (rs := [23]) (by kernel_rfl) (by simp) ?_
                        refine AllReadyH.cons (o := _) rfl (fun K hK => ?_) ?_
                        · (try simp only [List.getElem_toArray]); (try simp only [List.getElem_cons_succ]); (try simp only [List.getElem_cons_zero])
                          go_simp
                          have hc7a : Below wr.heap.size wr (w7.alloc (.cells #[.int .i64 ek.kind, .string ek.name, .string ek.tail, .int .i64 ek.num, .slice a7 ek.kids.length cap7] 28)) := below_al hc7
                          have hrw7 := hrw.keep hc7a
                          refine hK.out _ _ (HS' _ (below_al hc7)) (fun hHeld => ?_)
                          clear hK K
                          (try simp only [Act.put]); (try simp only [List.setIfInBounds_toArray]); (try simp only [List.set_cons_succ]); (try simp only [List.set_cons_zero])
                          refine wpAnyH_ready (rs := [24]) (by kernel_rfl) (by simp) ?_
                          refine AllReadyH.cons (o := _) rfl (fun K hK => ?_) ?_
                          · (try simp only [List.getElem_toArray]); (try simp only [List.getElem_cons_succ]); (try simp only [List.getElem_cons_zero])
                            refine step_any rfl (wp_append_lies _ (.tmp 58) (.tmp 80) 26 rfl (w.heap.size + 1 + 1 + 1) 28 i0 _ 5 72 Tryd.underlying26 hi0 hiz his hib rfl (by decide) vk (es.take k).length (rowCells (es.take k) ss) rfl hrw7.2.1 ⟨w7.heap.size, 0, none⟩ 1 1 (ek.cells (.slice a7 ek.kids.length cap7)) rfl rfl (cells_new w7 ek _) (cells_one ek _ _ _) (by omega) (by have := hek60; unfold maxLen; omega) (by have := hek60; omega) (by simp; omega) _ rfl ?_)
                            intro g8 cap8 w8 hO8 hG8 hor8 hlt8
                            have hc8 : Below (w.heap.size + 1 + 1 + 1) wr w8 := (hc7a.mono (by omega)).trans ⟨hG8.os, hG8.tape, hG8.output, hG8.size, fun x hx => hG8.block x (by simp; omega) (fun he => by have := (hrw7.2.1.lt x he.symm).1; omega)⟩
                            have hrw8 := Rows5.next (lo := w6.heap.size) hrw hc7 (below_al0 w7 (.cells #[.int .i64 ek.kind, .string ek.name, .string ek.tail, .int .i64 ek.num, .slice a7 ek.kids.length cap7] 28)) hc6.size (by have := hc6.size; omega) hl7 hO8 hG8 hor8
                            rw [htkl] at hrw8
                            have hbx8 : Box5 w8 (w.heap.size + 1 + 1) (.int .i64 e.kind) (.string nm) (.string e.tail) (.int .i64 e.num) vk := (by unfold Box5; rw [hc8.block _ (by omega)]; exact hbx)
                            obtain ⟨z0, z1, z2, z3, z4⟩ := hbx8.cells
                            have hzf := hbx8.froz 4
                            refine hK.out _ _ (HS _ hc8) (fun hHeld => ?_)
                            clear hK K
                            (try simp only [Act.put]); (try simp only [List.setIfInBounds_toArray]); (try simp only [List.set_cons_succ]); (try simp only [List.set_cons_zero])
                            (refine wpAnyH_take (i := 25) (oi := _) (v := ?v135) rfl (by kernel_rfl) (by kernel_rfl) (by kernel_rfl) (fun _ _ _ h => h) (Or.inl ⟨by rfl, ?hy135⟩) hHeld ?rest135; (case hy135 => (intro w' hSw; obtain ⟨x0, x1, x2, x3, x4, x5, x6, x7, x8, x9, y0, y1, y2, y3, y4⟩ := hSw; (try simp only [List.getElem_toArray]); (try simp only [List.getElem_cons_succ]); (try simp only [List.getElem_cons_zero]); go_simp; rfl)); (try simp only [List.getElem_toArray]); (try simp only [List.getElem_cons_succ]); (try simp only [List.getElem_cons_zero]); simp only [Act.put]; (try simp only [List.setIfInBounds_toArray]); (try simp only [List.set_cons_succ]); (try simp only [List.set_cons_zero]))
                            (refine wpAnyH_take (i := 26) (oi := _) (v := .bool true) rfl (by kernel_rfl) (by kernel_rfl) (by kernel_rfl) (fun _ _ _ h => h) (Or.inl ⟨by rfl, fun _ _ => by rfl⟩) hHeld ?_; (try simp only [List.getElem_toArray]); (try simp only [List.getElem_cons_succ]); (try simp only [List.getElem_cons_zero]); simp only [Act.put])
                            refine wpAnyH_done (by kernel_rfl) ?_ _
                            show Oper.wp _ _ _ _ _ _
                            go_simp
                            go_wp2_with fail
                            go_roundw
                            case rel => exact ⟨k + 1, _, _, by omega, by go_num, hbx8.set4 _, by rw [HTK.out]; exact hrw8.but (but_one w8 (w.heap.size + 1 + 1) 4 _) (by omega), grow_next hG hc8 (by simp)⟩
                            case measure => simp [intOf]; omega
                          exact AllReadyH.nil
                        exact AllReadyH.nil
                      exact AllReadyH.nil
                    exact AllReadyH.nil
                  exact AllReadyH.nil
                exact AllReadyH.nil
              exact AllReadyH.nil
            exact AllReadyH.nil
          refine AllReadyH.cons (o := _) rfl (fun K hK => ?_) ?_
          · (try simp only [List.getElem_toArray]); (try simp only [List.getElem_cons_succ]); (try simp only [List.getElem_cons_zero])
            go_simp
            refine hK.out _ _ (HS' _ (by first | assumption | exact below_al (by assumption) | exact (below_al0 _ _).drew | exact (below_al (below_al0 _ _)).drew)) (fun hHeld => ?_)
            clear hK K
            (try simp only [Act.put]); (try simp only [List.setIfInBounds_toArray]); (try simp only [List.set_cons_succ]); (try simp only [List.set_cons_zero])
            refine wpAnyH_ready (rs := [13]) (by kernel_rfl) (by simp) ?_
            refine AllReadyH.cons (o := _) rfl (fun K hK => ?_) ?_
            · (try simp only [List.getElem_toArray]); (try simp only [List.getElem_cons_succ]); (try simp only [List.getElem_cons_zero])
              go_simp
              refine (spec_l3Binds _ _ _ _ _ _ _).mono ?_
              rintro r w2 ⟨v2, rfl, he2, hb2⟩
              have hb12 : Below w1.heap.size w1 w2 := (by first | exact hb2 | exact below_pre hb2)
              have hc2 := below_next hc1 hb12
              have hv1 := App.keep ha1 hb12
              have hz2 := Nat.le_trans hz1 hb12.size
              try (go_wp2_with fail)
              refine hK.out _ _ (HS' _ hc2) (fun hHeld => ?_)
              clear hK K
              (try simp only [Act.put]); (try simp only [List.setIfInBounds_toArray]); (try simp only [List.set_cons_succ]); (try simp only [List.set_cons_zero])
              refine wpAnyH_ready (rs := [14]) (by kernel_rfl) (by simp) ?_
              refine AllReadyH.cons (o := _) rfl (fun K hK => ?_) ?_
              · (try simp only [List.getElem_toArray]); (try simp only [List.getElem_cons_succ]); (try simp only [List.getElem_cons_zero])
                refine step_any rfl (wp_append_app rfl (.tmp 67) (.tmp 70) rfl _ l (e.bindsAt k) _ _ rfl rfl (by first | exact hv1 | exact App.keep hv1 (below_al0 _ _)) (by first | exact he2 | exact Env.keep he2 (below_al0 _ _)) (by omega) (by have := bindsL_two e.kind e.name e.tail k; simp only [Ex.bindsAt]; omega) (by first | exact hz2 | exact Nat.le_trans hz2 (size_al _ _)) ?_)
                intro v3 w3 ha3 hb3
                have hc3 : Below wr.heap.size wr w3 := below_nextB (by first | assumption | exact below_al (by assumption)) hzr hb3
                have he3 : Env w3 (l ++ e.bindsAt k) v3 := App.base ha3 (Nat.zero_le _)
                refine hK.out _ _ (HS' _ hc3) (fun hHeld => ?_)
                clear hK K
                (try simp only [Act.put]); (try simp only [List.setIfInBounds_toArray]); (try simp only [List.set_cons_succ]); (try simp only [List.set_cons_zero])
                refine wpAnyH_ready (rs := [17]) (by kernel_rfl) (by simp) ?_
                refine AllReadyH.cons (o := _) rfl (fun K hK => ?_) ?_
                · (try simp only [List.getElem_toArray]); (try simp only [List.getElem_cons_succ]); (try simp only [List.getElem_cons_zero])
                  refine step_any rfl (wp_append_app rfl (.tmp 72) (.tmp 73) rfl _ [] (ns.take l.length) _ _ rfl rfl (Or.inr ⟨_, rfl, rfl⟩) (Env.keep ht0' (by first | assumption | exact below_al (by assumption))) (by simp) (by simp; omega) (Nat.le_refl _) ?_)
                  intro v4 w4 ha4 hb4
                  have hz4 := hb4.size
                  have hzr4 := below_base (w := wr) (by first | assumption | exact below_al (by assumption)) hb4
                  have hc4 : Below wr.heap.size wr w4 := below_next (by first | assumption | exact below_al (by assumption)) hb4
                  refine hK.out _ _ (HS' _ hc4) (fun hHeld => ?_)
                  clear hK K
                  (try simp only [Act.put]); (try simp only [List.setIfInBounds_toArray]); (try simp only [List.set_cons_succ]); (try simp only [List.set_cons_zero])
                  refine wpAnyH_ready (rs := [20]) (by kernel_rfl) (by simp) ?_
                  refine AllReadyH.cons (o := _) rfl (fun K hK => ?_) ?_
                  · (try simp only [List.getElem_toArray]); (try simp only [List.getElem_cons_succ]); (try simp only [List.getElem_cons_zero])
                    go_simp
                    refine (spec_l3Binds _ _ _ _ _ _ _).mono ?_
                    rintro r w5 ⟨v5, rfl, he5, hb5⟩
                    have hc5 := below_next hc4 hb5
                    have hv4 := App.keep ha4 hb5
                    have hz5 := Nat.le_trans hz4 hb5.size
                    try (go_wp2_with fail)
                    refine hK.out _ _ (HS' _ hc5) (fun hHeld => ?_)
                    clear hK K
                    (try simp only [Act.put]); (try simp only [List.setIfInBounds_toArray]); (try simp only [List.set_cons_succ]); (try simp only [List.set_cons_zero])
                    refine wpAnyH_ready (rs := [21]) (by kernel_rfl) (by simp) ?_
                    refine AllReadyH.cons (o := _) rfl (fun K hK => ?_) ?_
                    · (try simp only [List.getElem_toArray]); (try simp only [List.getElem_cons_succ]); (try simp only [List.getElem_cons_zero])
                      refine step_any rfl (wp_append_app rfl (.tmp 74) (.tmp 77) rfl _ (ns.take l.length) (bindsL e.kind nm e.tail k) _ _ rfl rfl hv4 he5 (by simp; omega) (by have := bindsL_two e.kind nm e.tail k; omega) hz5 ?_)
                      intro v6 w6 ha6 hb6
                      have hc6 : Below wr.heap.size wr w6 := below_nextB (by assumption) hzr4 hb6
                      have hch := (hb4.trans (hb5.mono hz4)).trans hb6
                      have he36 : Env w6 (l ++ e.bindsAt k) v3 := (by first | exact Env.keep he3 hch | exact Env.keep (Env.keep he3 (below_al0 _ _)) hch)
                      refine hK.out _ _ (HS' _ hc6) (fun hHeld => ?_)
                      clear hK K
                      (try simp only [Act.put]); (try simp only [List.setIfInBounds_toArray]); (try simp only [List.set_cons_succ]); (try simp only [List.set_cons_zero])
                      refine wpAnyH_ready (rs := [22]) (by kernel_rfl) (by simp) ?_
                      refine AllReadyH.cons (o := _) rfl (fun K hK => ?_) ?_
                      · (try simp only [List.getElem_toArray]); (try simp only [List.getElem_cons_succ]); (try simp only [List.getElem_cons_zero])
                        go_simp
                        refine (hih2 _ _ _ _ _ (d + 1) (hlk'.keep hc6 hc6.size) (hf0.keep hc6) he36 (by rw [← HB k]; exact App.base ha6 (Nat.zero_le _)) hsk (by omega) hlen).mono ?_
                        rintro r w7 ⟨s7, rfl, hl7, hb7⟩
                        have hc7 := below_next hc6 hb7
                        obtain ⟨a7, cap7, rfl⟩ := hl7.slice
                        have hz7 := hc7.size
                        try (go_wp2_with fail)
                        refine hK.out _ _ (HS' _ hc7) (fun hHeld => ?_)
                        clear hK K
                        (try simp only [Act.put]); (try simp only [List.setIfInBounds_toArray]); (try simp only [List.set_cons_succ]); (try simp only [List.set_cons_zero])
                        refine wpAnyH_ready (rs := [23]) (by kernel_rfl) (by simp) ?_
                        refine AllReadyH.cons (o := _) rfl (fun K hK => ?_) ?_
                        · (try simp only [List.getElem_toArray]); (try simp only [List.getElem_cons_succ]); (try simp only [List.getElem_cons_zero])
                          go_simp
                          have hc7a : Below wr.heap.size wr (w7.alloc (.cells #[.int .i64 ek.kind, .string ek.name, .string ek.tail, .int .i64 ek.num, .slice a7 ek.kids.length cap7] 28)) := below_al hc7
                          have hrw7 := hrw.keep hc7a
                          refine hK.out _ _ (HS' _ (below_al hc7)) (fun hHeld => ?_)
                          clear hK K
                          (try simp only [Act.put]); (try simp only [List.setIfInBounds_toArray]); (try simp only [List.set_cons_succ]); (try simp only [List.set_cons_zero])
                          refine wpAnyH_ready (rs := [24]) (by kernel_rfl) (by simp) ?_
                          refine AllReadyH.cons (o := _) rfl (fun K hK => ?_) ?_
                          · (try simp only [List.getElem_toArray]); (try simp only [List.getElem_cons_succ]); (try simp only [List.getElem_cons_zero])
                            refine step_any rfl (wp_append_lies _ (.tmp 58) (.tmp 80) 26 rfl (w.heap.size + 1 + 1 + 1) 28 i0 _ 5 72 Tryd.underlying26 hi0 hiz his hib rfl (by decide) vk (es.take k).length (rowCells (es.take k) ss) rfl hrw7.2.1 ⟨w7.heap.size, 0, none⟩ 1 1 (ek.cells (.slice a7 ek.kids.length cap7)) rfl rfl (cells_new w7 ek _) (cells_one ek _ _ _) (by omega) (by have := hek60; unfold maxLen; omega) (by have := hek60; omega) (by simp; omega) _ rfl ?_)
                            intro g8 cap8 w8 hO8 hG8 hor8 hlt8
                            have hc8 : Below (w.heap.size + 1 + 1 + 1) wr w8 := (hc7a.mono (by omega)).trans ⟨hG8.os, hG8.tape, hG8.output, hG8.size, fun x hx => hG8.block x (by simp; omega) (fun he => by have := (hrw7.2.1.lt x he.symm).1; omega)⟩
                            have hrw8 := Rows5.next (lo := w6.heap.size) hrw hc7 (below_al0 w7 (.cells #[.int .i64 ek.kind, .string ek.name, .string ek.tail, .int .i64 ek.num, .slice a7 ek.kids.length cap7] 28)) hc6.size (by have := hc6.size; omega) hl7 hO8 hG8 hor8
                            rw [htkl] at hrw8
                            have hbx8 : Box5 w8 (w.heap.size + 1 + 1) (.int .i64 e.kind) (.string nm) (.string e.tail) (.int .i64 e.num) vk := (by unfold Box5; rw [hc8.block _ (by omega)]; exact hbx)
                            obtain ⟨z0, z1, z2, z3, z4⟩ := hbx8.cells
                            have hzf := hbx8.froz 4
                            refine hK.out _ _ (HS _ hc8) (fun hHeld => ?_)
                            clear hK K
                            (try simp only [Act.put]); (try simp only [List.setIfInBounds_toArray]); (try simp only [List.set_cons_succ]); (try simp only [List.set_cons_zero])
                            (refine wpAnyH_take (i := 25) (oi := _) (v := ?v136) rfl (by kernel_rfl) (by kernel_rfl) (by kernel_rfl) (fun _ _ _ h => h) (Or.inl ⟨by rfl, ?hy136⟩) hHeld ?rest136; (case hy136 => (intro w' hSw; obtain ⟨x0, x1, x2, x3, x4, x5, x6, x7, x8, x9, y0, y1, y2, y3, y4⟩ := hSw; (try simp only [List.getElem_toArray]); (try simp only [List.getElem_cons_succ]); (try simp only [List.getElem_cons_zero]); go_simp; rfl)); (try simp only [List.getElem_toArray]); (try simp only [List.getElem_cons_succ]); (try simp only [List.getElem_cons_zero]); simp only [Act.put]; (try simp only [List.setIfInBounds_toArray]); (try simp only [List.set_cons_succ]); (try simp only [List.set_cons_zero]))
                            (refine wpAnyH_take (i := 26) (oi := _) (v := .bool true) rfl (by kernel_rfl) (by kernel_rfl) (by kernel_rfl) (fun _ _ _ h => h) (Or.inl ⟨by rfl, fun _ _ => by rfl⟩) hHeld ?_; (try simp only [List.getElem_toArray]); (try simp only [List.getElem_cons_succ]); (try simp only [List.getElem_cons_zero]); simp only [Act.put])
                            refine wpAnyH_done (by kernel_rfl) ?_ _
                            show Oper.wp _ _ _ _ _ _
                            go_simp
                            go_wp2_with fail
                            go_roundw
                            case rel => exact ⟨k + 1, _, _, by omega, by go_num, hbx8.set4 _, by rw [HTK.out]; exact hrw8.but (but_one w8 (w.heap.size + 1 + 1) 4 _) (by omega), grow_next hG hc8 (by simp)⟩
                            case measure => simp [intOf]; omega
                          exact AllReadyH.nil
                        exact AllReadyH.nil
                      exact AllReadyH.nil
                    exact AllReadyH.nil
                  exact AllReadyH.nil
                exact AllReadyH.nil
              exact AllReadyH.nil
            exact AllReadyH.nil
          exact AllReadyH.nil
        refine AllReadyH.cons (o := _) rfl (fun K hK => ?_) ?_
        · (try simp only [List.getElem_toArray]); (try simp only [List.getElem_cons_succ]); (try simp only [List.getElem_cons_zero])
          go_simp
          refine hK.out _ _ (HS' _ (by first | assumption | exact below_al (by assumption) | exact (below_al0 _ _).drew | exact (below_al (below_al0 _ _)).drew)) (fun hHeld => ?_)
          clear hK K
          (try simp only [Act.put]); (try simp only [List.setIfInBounds_toArray]); (try simp only [List.set_cons_succ]); (try simp only [List.set_cons_zero])
          refine wpAnyH_ready (rs := [10]) (by kernel_rfl) (by simp) ?_
          refine AllReadyH.cons (o := _) rfl (fun K hK => ?_) ?_
          · (try simp only [List.getElem_toArray]); (try simp only [List.getElem_cons_succ]); (try simp only [List.getElem_cons_zero])
            refine step_any rfl (wp_append_app rfl (.tmp 65) (.tmp 66) rfl _ [] l _ _ rfl rfl (Or.inr ⟨_, rfl, rfl⟩) (Env.keep hl0 (by first | assumption | exact below_al (by assumption) | exact (below_al0 _ _).drew | exact (below_al (below_al0 _ _)).drew)) (by simp) (by omega) (Nat.le_refl _) ?_)
            intro v1 w1 ha1 hb1
            have hz1 := hb1.size
            have hzr := below_base (w := wr) (by first | assumption | exact below_al (by assumption) | exact (below_al0 _ _).drew | exact (below_al (below_al0 _ _)).drew) hb1
            have hc1 : Below wr.heap.size wr w1 := below_next (by first | assumption | exact below_al (by assumption) | exact (below_al0 _ _).drew | exact (below_al (below_al0 _ _)).drew) hb1
            refine hK.out _ _ (HS' _ hc1) (fun hHeld => ?_)
            clear hK K
            (try simp only [Act.put]); (try simp only [List.setIfInBounds_toArray]); (try simp only [List.set_cons_succ]); (try simp only [List.set_cons_zero])
            refine wpAnyH_ready (rs := [13]) (by kernel_rfl) (by simp) ?_
            refine AllReadyH.cons (o := _) rfl (fun K hK => ?_) ?_
            · (try simp only [List.getElem_toArray]); (try simp only [List.getElem_cons_succ]); (try simp only [List.getElem_cons_zero])
              go_simp
              refine (spec_l3Binds _ _ _ _ _ _ _).mono ?_
              rintro r w2 ⟨v2, rfl, he2, hb2⟩
              have hb12 : Below w1.heap.size w1 w2 := (by first | exact hb2 | exact below_pre hb2)
              have hc2 := below_next hc1 hb12
              have hv1 := App.keep ha1 hb12
              have hz2 := Nat.le_trans hz1 hb12.size
              try (go_wp2_with fail)
              refine hK.out _ _ (HS' _ hc2) (fun hHeld => ?_)
              clear hK K
              (try simp only [Act.put]); (try simp only [List.setIfInBounds_toArray]); (try simp only [List.set_cons_succ]); (try simp only [List.set_cons_zero])
              refine wpAnyH_ready (rs := [14]) (by kernel_rfl) (by simp) ?_
              refine AllReadyH.cons (o := _) rfl (fun K hK => ?_) ?_
              · (try simp only [List.getElem_toArray]); (try simp only [List.getElem_cons_succ]); (try simp only [List.getElem_cons_zero])
                refine step_any rfl (wp_append_app rfl (.tmp 67) (.tmp 70) rfl _ l (e.bindsAt k) _ _ rfl rfl (by first | exact hv1 | exact App.keep hv1 (below_al0 _ _)) (by first | exact he2 | exact Env.keep he2 (below_al0 _ _)) (by omega) (by have := bindsL_two e.kind e.name e.tail k; simp only [Ex.bindsAt]; omega) (by first | exact hz2 | exact Nat.le_trans hz2 (size_al _ _)) ?_)
                intro v3 w3 ha3 hb3
                have hc3 : Below wr.heap.size wr w3 := below_nextB (by first | assumption | exact below_al (by assumption)) hzr hb3
                have he3 : Env w3 (l ++ e.bindsAt k) v3 := App.base ha3 (Nat.zero_le _)
                refine hK.out _ _ (HS' _ hc3) (fun hHeld => ?_)
                clear hK K
                (try simp only [Act.put]); (try simp only [List.setIfInBounds_toArray]); (try simp only [List.set_cons_succ]); (try simp only [List.set_cons_zero])
                refine wpAnyH_ready (rs := [17]) (by kernel_rfl) (by simp) ?_
                refine AllReadyH.cons (o := _) rfl (fun K hK => ?_) ?_
                · (try simp only [List.getElem_toArray]); (try simp only [List.getElem_cons_succ]); (try simp only [List.getElem_cons_zero])
                  refine step_any rfl (wp_append_app rfl (.tmp 72) (.tmp 73) rfl _ [] (ns.take l.length) _ _ rfl rfl (Or.inr ⟨_, rfl, rfl⟩) (Env.keep ht0' (by first | assumption | exact below_al (by assumption))) (by simp) (by simp; omega) (Nat.le_refl _) ?_)
                  intro v4 w4 ha4 hb4
                  have hz4 := hb4.size
                  have hzr4 := below_base (w := wr) (by first | assumption | exact below_al (by assumption)) hb4
                  have hc4 : Below wr.heap.size wr w4 := below_next (by first | assumption | exact below_al (by assumption)) hb4
                  refine hK.out _ _ (HS' _ hc4) (fun hHeld => ?_)
                  clear hK K
                  (try simp only [Act.put]); (try simp only [List.setIfInBounds_toArray]); (try simp only [List.set_cons_succ]); (try simp only [List.set_cons_zero])
                  refine wpAnyH_ready (rs := [20]) (by kernel_rfl) (by simp) ?_
                  refine AllReadyH.cons (o := _) rfl (fun K hK => ?_) ?_
                  · (try simp only [List.getElem_toArray]); (try simp only [List.getElem_cons_succ]); (try simp only [List.getElem_cons_zero])
                    go_simp
                    refine (spec_l3Binds _ _ _ _ _ _ _).mono ?_
                    rintro r w5 ⟨v5, rfl, he5, hb5⟩
                    have hc5 := below_next hc4 hb5
                    have hv4 := App.keep ha4 hb5
                    have hz5 := Nat.le_trans hz4 hb5.size
                    try (go_wp2_with fail)
                    refine hK.out _ _ (HS' _ hc5) (fun hHeld => ?_)
                    clear hK K
                    (try simp only [Act.put]); (try simp only [List.setIfInBounds_toArray]); (try simp only [List.set_cons_succ]); (try simp only [List.set_cons_zero])
                    refine wpAnyH_ready (rs := [21]) (by kernel_rfl) (by simp) ?_
                    refine AllReadyH.cons (o := _) rfl (fun K hK => ?_) ?_
                    · (try simp only [List.getElem_toArray]); (try simp only [List.getElem_cons_succ]); (try simp only [List.getElem_cons_zero])
                      refine step_any rfl (wp_append_app rfl (.tmp 74) (.tmp 77) rfl _ (ns.take l.length) (bindsL e.kind nm e.tail k) _ _ rfl rfl hv4 he5 (by simp; omega) (by have := bindsL_two e.kind nm e.tail k; omega) hz5 ?_)
                      intro v6 w6 ha6 hb6
                      have hc6 : Below wr.heap.size wr w6 := below_nextB (by assumption) hzr4 hb6
                      have hch := (hb4.trans (hb5.mono hz4)).trans hb6
                      have he36 : Env w6 (l ++ e.bindsAt k) v3 := (by first | exact Env.keep he3 hch | exact Env.keep (Env.keep he3 (below_al0 _ _)) hch)
                      refine hK.out _ _ (HS' _ hc6) (fun hHeld => ?_)
                      clear hK K
                      (try simp only [Act.put]); (try simp only [List.setIfInBounds_toArray]); (try simp only [List.set_cons_succ]); (try simp only [List.set_cons_zero])
                      refine wpAnyH_ready (rs := [22]) (by kernel_rfl) (by simp) ?_
                      refine AllReadyH.cons (o := _) rfl (fun K hK => ?_) ?_
                      · (try simp only [List.getElem_toArray]); (try simp only [List.getElem_cons_succ]); (try simp only [List.getElem_cons_zero])
                        go_simp
                        refine (hih2 _ _ _ _ _ (d + 1) (hlk'.keep hc6 hc6.size) (hf0.keep hc6) he36 (by rw [← HB k]; exact App.base ha6 (Nat.zero_le _)) hsk (by omega) hlen).mono ?_
                        rintro r w7 ⟨s7, rfl, hl7, hb7⟩
                        have hc7 := below_next hc6 hb7
                        obtain ⟨a7, cap7, rfl⟩ := hl7.slice
                        have hz7 := hc7.size
                        try (go_wp2_with fail)
                        refine hK.out _ _ (HS' _ hc7) (fun hHeld => ?_)
                        clear hK K
                        (try simp only [Act.put]); (try simp only [List.setIfInBounds_toArray]); (try simp only [List.set_cons_succ]); (try simp only [List.set_cons_zero])
                        refine wpAnyH_ready (rs := [23]) (by kernel_rfl) (by simp) ?_
                        refine AllReadyH.cons (o := _) rfl (fun K hK => ?_) ?_
                        · (try simp only [List.getElem_toArray]); (try simp only [List.getElem_cons_succ]); (try simp only [List.getElem_cons_zero])
                          go_simp
                          have hc7a : Below wr.heap.size wr (w7.alloc (.cells #[.int .i64 ek.kind, .string ek.name, .string ek.tail, .int .i64 ek.num, .slice a7 ek.kids.length cap7] 28)) := below_al hc7
                          have hrw7 := hrw.keep hc7a
                          refine hK.out _ _ (HS' _ (below_al hc7)) (fun hHeld => ?_)
                          clear hK K
                          (try simp only [Act.put]); (try simp only [List.setIfInBounds_toArray]); (try simp only [List.set_cons_succ]); (try simp only [List.set_cons_zero])
                          refine wpAnyH_ready (rs := [24]) (by kernel_rfl) (by simp) ?_
                          refine AllReadyH.cons (o := _) rfl (fun K hK => ?_) ?_
                          · (try simp only [List.getElem_toArray]); (try simp only [List.getElem_cons_succ]); (try simp only [List.getElem_cons_zero])
                            refine step_any rfl (wp_append_lies _ (.tmp 58) (.tmp 80) 26 rfl (w.heap.size + 1 + 1 + 1) 28 i0 _ 5 72 Tryd.underlying26 hi0 hiz his hib rfl (by decide) vk (es.take k).length (rowCells (es.take k) ss) rfl hrw7.2.1 ⟨w7.heap.size, 0, none⟩ 1 1 (ek.cells (.slice a7 ek.kids.length cap7)) rfl rfl (cells_new w7 ek _) (cells_one ek _ _ _) (by omega) (by have := hek60; unfold maxLen; omega) (by have := hek60; omega) (by simp; omega) _ rfl ?_)
                            intro g8 cap8 w8 hO8 hG8 hor8 hlt8
                            have hc8 : Below (w.heap.size + 1 + 1 + 1) wr w8 := (hc7a.mono (by omega)).trans ⟨hG8.os, hG8.tape, hG8.output, hG8.size, fun x hx => hG8.block x (by simp; omega) (fun he => by have := (hrw7.2.1.lt x he.symm).1; omega)⟩
                            have hrw8 := Rows5.next (lo := w6.heap.size) hrw hc7 (below_al0 w7 (.cells #[.int .i64 ek.kind, .string ek.name, .string ek.tail, .int .i64 ek.num, .slice a7 ek.kids.length cap7] 28)) hc6.size (by have := hc6.size; omega) hl7 hO8 hG8 hor8
                            rw [htkl] at hrw8
                            have hbx8 : Box5 w8 (w.heap.size + 1 + 1) (.int .i64 e.kind) (.string nm) (.string e.tail) (.int .i64 e.num) vk := (by unfold Box5; rw [hc8.block _ (by omega)]; exact hbx)
                            obtain ⟨z0, z1, z2, z3, z4⟩ := hbx8.cells
                            have hzf := hbx8.froz 4
                            refine hK.out _ _ (HS _ hc8) (fun hHeld => ?_)
                            clear hK K
                            (try simp only [Act.put]); (try simp only [List.setIfInBounds_toArray]); (try simp only [List.set_cons_succ]); (try simp only [List.set_cons_zero])
                            (refine wpAnyH_take (i := 25) (oi := _) (v := ?v137) rfl (by kernel_rfl) (by kernel_rfl) (by kernel_rfl) (fun _ _ _ h => h) (Or.inl ⟨by rfl, ?hy137⟩) hHeld ?rest137; (case hy137 => (intro w' hSw; obtain ⟨x0, x1, x2, x3, x4, x5, x6, x7, x8, x9, y0, y1, y2, y3, y4⟩ := hSw; (try simp only [List.getElem_toArray]); (try simp only [List.getElem_cons_succ]); (try simp only [List.getElem_cons_zero]); go_simp; rfl)); (try simp only [List.getElem_toArray]); (try simp only [List.getElem_cons_succ]); (try simp only [List.getElem_cons_zero]); simp only [Act.put]; (try simp only [List.setIfInBounds_toArray]); (try simp only [List.set_cons_succ]); (try simp only [List.set_cons_zero]))
                            (refine wpAnyH_take (i := 26) (oi := _) (v := .bool true) rfl (by kernel_rfl) (by kernel_rfl) (by kernel_rfl) (fun _ _ _ h => h) (Or.inl ⟨by rfl, fun _ _ => by rfl⟩) hHeld ?_; (try simp only [List.getElem_toArray]); (try simp only [List.getElem_cons_succ]); (try simp only [List.getElem_cons_zero]); simp only [Act.put])
                            refine wpAnyH_done (by kernel_rfl) ?_ _
                            show Oper.wp _ _ _ _ _ _
                            go_simp
                            go_wp2_with fail
                            go_roundw
                            case rel => exact ⟨k + 1, _, _, by omega, by go_num, hbx8.set4 _, by rw [HTK.out]; exact hrw8.but (but_one w8 (w.heap.size + 1 + 1) 4 _) (by omega), grow_next hG hc8 (by simp)⟩
                            case measure => simp [intOf]; omega
                          exact AllReadyH.nil
                        exact AllReadyH.nil
                      exact AllReadyH.nil
                    exact AllReadyH.nil
                  exact AllReadyH.nil
                exact AllReadyH.nil
              exact AllReadyH.nil
            exact AllReadyH.nil
          exact AllReadyH.nil
        exact AllReadyH.nil
      refine AllReadyH.cons (o := _) rfl (fun K hK => ?_) ?_
      · (try simp only [List.getElem_toArray]); (try simp only [List.getElem_cons_succ]); (try simp only [List.getElem_cons_zero])
        go_simp
        refine hK.out _ _ (HS' _ (by first | assumption | exact below_al (by assumption) | exact (below_al0 _ _).drew | exact (below_al (below_al0 _ _)).drew)) (fun hHeld => ?_)
        clear hK K
        (try simp only [Act.put]); (try simp only [List.setIfInBounds_toArray]); (try simp only [List.set_cons_succ]); (try simp only [List.set_cons_zero])
        refine wpAnyH_ready (rs := [8]) (by kernel_rfl) (by simp) ?_
        refine AllReadyH.cons (o := _) rfl (fun K hK => ?_) ?_
        · (try simp only [List.getElem_toArray]); (try simp only [List.getElem_cons_succ]); (try simp only [List.getElem_cons_zero])
          go_simp
          refine hK.out _ _ (HS' _ (by first | assumption | exact below_al (by assumption) | exact (below_al0 _ _).drew | exact (below_al (below_al0 _ _)).drew)) (fun hHeld => ?_)
          clear hK K
          (try simp only [Act.put]); (try simp only [List.setIfInBounds_toArray]); (try simp only [List.set_cons_succ]); (try simp only [List.set_cons_zero])
          refine wpAnyH_ready (rs := [10]) (by kernel_rfl) (by simp) ?_
          refine AllReadyH.cons (o := _) rfl (fun K hK => ?_) ?_
          · (try simp only [List.getElem_toArray]); (try simp only [List.getElem_cons_succ]); (try simp only [List.getElem_cons_zero])
            refine step_any rfl (wp_append_app rfl (.tmp 65) (.tmp 66) rfl _ [] l _ _ rfl rfl (Or.inr ⟨_, rfl, rfl⟩) (Env.keep hl0 (by first | assumption | exact below_al (by assumption) | exact (below_al0 _ _).drew | exact (below_al (below_al0 _ _)).drew)) (by simp) (by omega) (Nat.le_refl _) ?_)
            intro v1 w1 ha1 hb1
            have hz1 := hb1.size
            have hzr := below_base (w := wr) (by first | assumption | exact below_al (by assumption) | exact (below_al0 _ _).drew | exact (below_al (below_al0 _ _)).drew) hb1
            have hc1 : Below wr.heap.size wr w1 := below_next (by first | assumption | exact below_al (by assumption) | exact (below_al0 _ _).drew | exact (below_al (below_al0 _ _)).drew) hb1
            refine hK.out _ _ (HS' _ hc1) (fun hHeld => ?_)
            clear hK K
            (try simp only [Act.put]); (try simp only [List.setIfInBounds_toArray]); (try simp only [List.set_cons_succ]); (try simp only [List.set_cons_zero])
            refine wpAnyH_ready (rs := [13]) (by kernel_rfl) (by simp) ?_
            refine AllReadyH.cons (o := _) rfl (fun K hK => ?_) ?_
            · (try simp only [List.getElem_toArray]); (try simp only [List.getElem_cons_succ]); (try simp only [List.getElem_cons_zero])
              go_simp
              refine (spec_l3Binds _ _ _ _ _ _ _).mono ?_
              rintro r w2 ⟨v2, rfl, he2, hb2⟩
              have hb12 : Below w1.heap.size w1 w2 := (by first | exact hb2 | exact below_pre hb2)
              have hc2 := below_next hc1 hb12
              have hv1 := App.keep ha1 hb12
              have hz2 := Nat.le_trans hz1 hb12.size
              try (go_wp2_with fail)
              refine hK.out _ _ (HS' _ hc2) (fun hHeld => ?_)
              clear hK K
              (try simp only [Act.put]); (try simp only [List.setIfInBounds_toArray]); (try simp only [List.set_cons_succ]); (try simp only [List.set_cons_zero])
              refine wpAnyH_ready (rs := [14]) (by kernel_rfl) (by simp) ?_
              refine AllReadyH.cons (o := _) rfl (fun K hK => ?_) ?_
              · (try simp only [List.getElem_toArray]); (try simp only [List.getElem_cons_succ]); (try simp only [List.getElem_cons_zero])
                refine step_any rfl (wp_append_app rfl (.tmp 67) (.tmp 70) rfl _ l (e.bindsAt k) _ _ rfl rfl (by first | exact hv1 | exact App.keep hv1 (below_al0 _ _)) (by first | exact he2 | exact Env.keep he2 (below_al0 _ _)) (by omega) (by have := bindsL_two e.kind e.name e.tail k; simp only [Ex.bindsAt]; omega) (by first | exact hz2 | exact Nat.le_trans hz2 (size_al _ _)) ?_)
                intro v3 w3 ha3 hb3
                have hc3 : Below wr.heap.size wr w3 := below_nextB (by first | assumption | exact below_al (by assumption)) hzr hb3
                have he3 : Env w3 (l ++ e.bindsAt k) v3 := App.base ha3 (Nat.zero_le _)
                refine hK.out _ _ (HS' _ hc3) (fun hHeld => ?_)
                clear hK K
                (try simp only [Act.put]); (try simp only [List.setIfInBounds_toArray]); (try simp only [List.set_cons_succ]); (try simp only [List.set_cons_zero])
                refine wpAnyH_ready (rs := [17]) (by kernel_rfl) (by simp) ?_
                refine AllReadyH.cons (o := _) rfl (fun K hK => ?_) ?_
                · (try simp only [List.getElem_toArray]); (try simp only [List.getElem_cons_succ]); (try simp only [List.getElem_cons_zero])
                  refine step_any rfl (wp_append_app rfl (.tmp 72) (.tmp 73) rfl _ [] (ns.take l.length) _ _ rfl rfl (Or.inr ⟨_, rfl, rfl⟩) (Env.keep ht0' (by first | assumption | exact below_al (by assumption))) (by simp) (by simp; omega) (Nat.le_refl _) ?_)
                  intro v4 w4 ha4 hb4
                  have hz4 := hb4.size
                  have hzr4 := below_base (w := wr) (by first | assumption | exact below_al (by assumption)) hb4
                  have hc4 : Below wr.heap.size wr w4 := below_next (by first | assumption | exact below_al (by assumption)) hb4
                  refine hK.out _ _ (HS' _ hc4) (fun hHeld => ?_)
                  clear hK K
                  (try simp only [Act.put]); (try simp only [List.setIfInBounds_toArray]); (try simp only [List.set_cons_succ]); (try simp only [List.set_cons_zero])
                  refine wpAnyH_ready (rs := [20]) (by kernel_rfl) (by simp) ?_
                  refine AllReadyH.cons (o := _) rfl (fun K hK => ?_) ?_
                  · (try simp only [List.getElem_toArray]); (try simp only [List.getElem_cons_succ]); (try simp only [List.getElem_cons_zero])
                    go_simp
                    refine (spec_l3Binds _ _ _ _ _ _ _).mono ?_
                    rintro r w5 ⟨v5, rfl, he5, hb5⟩
                    have hc5 := below_next hc4 hb5
                    have hv4 := App.keep ha4 hb5
                    have hz5 := Nat.le_trans hz4 hb5.size
                    try (go_wp2_with fail)
                    refine hK.out _ _ (HS' _ hc5) (fun hHeld => ?_)
                    clear hK K
                    (try simp only [Act.put]); (try simp only [List.setIfInBounds_toArray]); (try simp only [List.set_cons_succ]); (try simp only [List.set_cons_zero])
                    refine wpAnyH_ready (rs := [21]) (by kernel_rfl) (by simp) ?_
                    refine AllReadyH.cons (o := _) rfl (fun K hK => ?_) ?_
                    · (try simp only [List.getElem_toArray]); (try simp only [List.getElem_cons_succ]); (try simp only [List.getElem_cons_zero])
                      refine step_any rfl (wp_append_app rfl (.tmp 74) (.tmp 77) rfl _ (ns.take l.length) (bindsL e.kind nm e.tail k) _ _ rfl rfl hv4 he5 (by simp; omega) (by have := bindsL_two e.kind nm e.tail k; omega) hz5 ?_)
                      intro v6 w6 ha6 hb6
                      have hc6 : Below wr.heap.size wr w6 := below_nextB (by assumption) hzr4 hb6
                      have hch := (hb4.trans (hb5.mono hz4)).trans hb6
                      have he36 : Env w6 (l ++ e.bindsAt k) v3 := (by first | exact Env.keep he3 hch | exact Env.keep (Env.keep he3 (below_al0 _ _)) hch)
                      refine hK.out _ _ (HS' _ hc6) (fun hHeld => ?_)
                      clear hK K
                      (try simp only [Act.put]); (try simp only [List.setIfInBounds_toArray]); (try simp only [List.set_cons_succ]); (try simp only [List.set_cons_zero])
                      refine wpAnyH_ready (rs := [22]) (by kernel_rfl) (by simp) ?_
                      refine AllReadyH.cons (o := _) rfl (fun K hK => ?_) ?_
                      · (try simp only [List.getElem_toArray]); (try simp only [List.getElem_cons_succ]); (try simp only [List.getElem_cons_zero])
                        go_simp
                        refine (hih2 _ _ _ _ _ (d + 1) (hlk'.keep hc6 hc6.size) (hf0.keep hc6) he36 (by rw [← HB k]; exact App.base ha6 (Nat.zero_le _)) hsk (by omega) hlen).mono ?_
                        rintro r w7 ⟨s7, rfl, hl7, hb7⟩
                        have hc7 := below_next hc6 hb7
                        obtain ⟨a7, cap7, rfl⟩ := hl7.slice
                        have hz7 := hc7.size
                        try (go_wp2_with fail)
                        refine hK.out _ _ (HS' _ hc7) (fun hHeld => ?_)
                        clear hK K
                        (try simp only [Act.put]); (try simp only [List.setIfInBounds_toArray]); (try simp only [List.set_cons_succ]); (try simp only [List.set_cons_zero])
                        refine wpAnyH_ready (rs := [23]) (by kernel_rfl) (by simp) ?_
                        refine AllReadyH.cons (o := _) rfl (fun K hK => ?_) ?_
                        · (try simp only [List.getElem_toArray]); (try simp only [List.getElem_cons_succ]); (try simp only [List.getElem_cons_zero])
                          go_simp
                          have hc7a : Below wr.heap.size wr (w7.alloc (.cells #[.int .i64 ek.kind, .string ek.name, .string ek.tail, .int .i64 ek.num, .slice a7 ek.kids.length cap7] 28)) := below_al hc7
                          have hrw7 := hrw.keep hc7a
                          refine hK.out _ _ (HS' _ (below_al hc7)) (fun hHeld => ?_)
                          clear hK K
                          (try simp only [Act.put]); (try simp only [List.setIfInBounds_toArray]); (try simp only [List.set_cons_succ]); (try simp only [List.set_cons_zero])
                          refine wpAnyH_ready (rs := [24]) (by kernel_rfl) (by simp) ?_
                          refine AllReadyH.cons (o := _) rfl (fun K hK => ?_) ?_
                          · (try simp only [List.getElem_toArray]); (try simp only [List.getElem_cons_succ]); (try simp only [List.getElem_cons_zero])
                            refine step_any rfl (wp_append_lies _ (.tmp 58) (.tmp 80) 26 rfl (w.heap.size + 1 + 1 + 1) 28 i0 _ 5 72 Tryd.underlying26 hi0 hiz his hib rfl (by decide) vk (es.take k).length (rowCells (es.take k) ss) rfl hrw7.2.1 ⟨w7.heap.size, 0, none⟩ 1 1 (ek.cells (.slice a7 ek.kids.length cap7)) rfl rfl (cells_new w7 ek _) (cells_one ek _ _ _) (by omega) (by have := hek60; unfold maxLen; omega) (by have := hek60; omega) (by simp; omega) _ rfl ?_)
                            intro g8 cap8 w8 hO8 hG8 hor8 hlt8
                            have hc8 : Below (w.heap.size + 1 + 1 + 1) wr w8 := (hc7a.mono (by omega)).trans ⟨hG8.os, hG8.tape, hG8.output, hG8.size, fun x hx => hG8.block x (by simp; omega) (fun he => by have := (hrw7.2.1.lt x he.symm).1; omega)⟩
                            have hrw8 := Rows5.next (lo := w6.heap.size) hrw hc7 (below_al0 w7 (.cells #[.int .i64 ek.kind, .string ek.name, .string ek.tail, .int .i64 ek.num, .slice a7 ek.kids.length cap7] 28)) hc6.size (by have := hc6.size; omega) hl7 hO8 hG8 hor8
                            rw [htkl] at hrw8
                            have hbx8 : Box5 w8 (w.heap.size + 1 + 1) (.int .i64 e.kind) (.string nm) (.string e.tail) (.int .i64 e.num) vk := (by unfold Box5; rw [hc8.block _ (by omega)]; exact hbx)
                            obtain ⟨z0, z1, z2, z3, z4⟩ := hbx8.cells
                            have hzf := hbx8.froz 4
                            refine hK.out _ _ (HS _ hc8) (fun hHeld => ?_)
                            clear hK K
                            (try simp only [Act.put]); (try simp only [List.setIfInBounds_toArray]); (try simp only [List.set_cons_succ]); (try simp only [List.set_cons_zero])
                            (refine wpAnyH_take (i := 25) (oi := _) (v := ?v138) rfl (by kernel_rfl) (by kernel_rfl) (by kernel_rfl) (fun _ _ _ h => h) (Or.inl ⟨by rfl, ?hy138⟩) hHeld ?rest138; (case hy138 => (intro w' hSw; obtain ⟨x0, x1, x2, x3, x4, x5, x6, x7, x8, x9, y0, y1, y2, y3, y4⟩ := hSw; (try simp only [List.getElem_toArray]); (try simp only [List.getElem_cons_succ]); (try simp only [List.getElem_cons_zero]); go_simp; rfl)); (try simp only [List.getElem_toArray]); (try simp only [List.getElem_cons_succ]); (try simp only [List.getElem_cons_zero]); simp only [Act.put]; (try simp only [List.setIfInBounds_toArray]); (try simp only [List.set_cons_succ]); (try simp only [List.set_cons_zero]))
                            (refine wpAnyH_take (i := 26) (oi := _) (v := .bool true) rfl (by kernel_rfl) (by kernel_rfl) (by kernel_rfl) (fun _ _ _ h => h) (Or.inl ⟨by rfl, fun _ _ => by rfl⟩) hHeld ?_; (try simp only [List.getElem_toArray]); (try simp only [List.getElem_cons_succ]); (try simp only [List.getElem_cons_zero]); simp only [Act.put])
                            refine wpAnyH_done (by kernel_rfl) ?_ _
                            show Oper.wp _ _ _ _ _ _
                            go_simp
                            go_wp2_with fail
                            go_roundw
                            case rel => exact ⟨k + 1, _, _, by omega, by go_num, hbx8.set4 _, by rw [HTK.out]; exact hrw8.but (but_one w8 (w.heap.size + 1 + 1) 4 _) (by omega), grow_next hG hc8 (by simp)⟩
                            case measure => simp [intOf]; omega
                          exact AllReadyH.nil
                        exact AllReadyH.nil
                      exact AllReadyH.nil
                    exact AllReadyH.nil
                  exact AllReadyH.nil
                exact AllReadyH.nil
              exact AllReadyH.nil
            exact AllReadyH.nil
          exact AllReadyH.nil
        exact AllReadyH.nil
      exact AllReadyH.nil
    · obtain rfl : k = e.kids.length := by omega
      have hZ0 : Box5 ((w.alloc (.cells #[.int .i64 e.kind, .string e.name, .string e.tail, .int .i64 e.num, .slice a e.kids.length cap] 28)).alloc (.cells #[.int .i64 0, .string ⟨#[]⟩, .string ⟨#[]⟩, .int .i64 0, .slice none 0 0] 28)) (w.heap.size + 1) (.int .i64 0) (.string ⟨#[]⟩) (.string ⟨#[]⟩) (.int .i64 0) (.slice none 0 0) := by simpa using Box5.new (w.alloc (.cells #[.int .i64 e.kind, .string e.name, .string e.tail, .int .i64 e.num, .slice a e.kids.length cap] 28)) (.int .i64 0) (.string ⟨#[]⟩) (.string ⟨#[]⟩) (.int .i64 0) (.slice none 0 0)
      have hZr := hZ0.but hG (by omega)
      obtain ⟨q0, q1, q2, q3, q4⟩ := hZr.cells
      have qf := hZr.froz
      have hLs := hrw.lies
      rw [← hel, List.take_length] at hLs
      obtain ⟨ak, capk, rfl⟩ := hLs.slice
      rw [hel] at hLs
      have hzr : w.heap.size + 1 < wr.heap.size := by omega
      have hzr2 : w.heap.size < wr.heap.size := by omega
      go_wp2_with fail
      refine bodyPost_ret (v := .agg #[.int .i64 e.kind, .string nm, .string e.tail, .int .i64 e.num, .slice ak e.kids.length capk]) (by simp [results, Tryd.results13, go_sem, q0, q1, q2, q3, q4]) rfl ⟨.slice ak e.kids.length capk, by rw [HT.out]; rfl, ?_, ?_⟩
      · rw [HT.out]
        clear q0 q1 q2 q3 q4 qf r0 r1 r2 r3 r4 o0 o1 o2 o3 o4 hof
        refine Lies.same (S := fun b => w.heap.size + 1 + 1 + 1 ≤ b ∧ b < wr.heap.size) ?_ (fun b hb => ⟨rfl, by omega, by simp [World.setCell]; omega⟩)
        repeat (refine lies_set ?_ (fun h => by have h1 := h.1; dsimp only at h1; omega))
        exact hLs
      · clear q0 q1 q2 q3 q4 qf r0 r1 r2 r3 r4 o0 o1 o2 o3 o4 hof
        repeat (refine Below.setCell ?_ (by dsimp only; omega) _)
        exact hBw
end Go.Proofs.YtkjppjhmejkidaaDoor

