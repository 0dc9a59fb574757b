/-
  walkFree: each free name of an expression is found, in order.
  freeSet: how often each name is free in some expressions.
  A byte as a text.
  Numbers below a hundred, written in figures: the library's strconv.Itoa, and the specification's l1Dec.
  tidyNames: the first of w0, w1 and so on that are not among some names.
  Lists of names, ascending: the specification's l3With.
-/
import Derived.Test.YtkjppjhmejkidaaDoorNtAll1
import Derived.Test.YtkjppjhmejkidaaDoorNtAll2
import Derived.Test.YtkjppjhmejkidaaDoorNtAll7
import Derived.Maps.AppendAt
import Derived.Deep.AppendLies
import Derived.Deep.RegionHeld3
import Derived.Shelf.Strconv.Itoa3
import Derived.Shelf.Lay
import Derived.Ground.NamesProg
namespace Go.Proofs.YtkjppjhmejkidaaDoor
open Go.RowKit Go.Maps Go.WideMaps

mutual
/-- Where free names stand in an expression, under what is bound around it. -/
def occM : Ex → List ByteArray → List ByteArray
  | .mk k n t _ ks, l => (if k = 3 ∧ lastTo l n l.length < 0 then [n] else []) ++ occAll ks 0 (fun i => l ++ bindsL k n t i)
def occAll : List Ex → Int → (Int → List ByteArray) → List ByteArray
  | [], _, _ => []
  | e :: es, i, f => occM e (f i) ++ occAll es (i + 1) f
end
theorem occM_eq (e : Ex) (l : List ByteArray) : occM e l = (if e.kind = 3 ∧ lastTo l e.name l.length < 0 then [e.name] else []) ++ occAll e.kids 0 (fun i => l ++ e.bindsAt i) := by
  cases e; rw [occM]; rfl
theorem occAll_drop (es : List Ex) (i : Int) (f : Int → List ByteArray) (k : Nat) (h : k < es.length) : occAll (es.drop k) i f = occM es[k] (f i) ++ occAll (es.drop (k + 1)) (i + 1) f := by
  rw [List.drop_eq_getElem_cons h, occAll]

theorem but_of_below {w w' : World} (Bm : Nat) (h : Below w.heap.size w w') : w.grownBy w' (some Bm) := ⟨h.os, h.tape, h.output, h.size, fun k hk _ => h.block k hk⟩
theorem Lies.but {w w' : World} {Bm : Nat} {es : List Ex} {v : Value} (h : Lies w (· < Bm) es v) (hg : w.grownBy w' (Option.some Bm)) (hB : Bm ≤ w.heap.size) : Lies w' (· < Bm) es v :=
  h.same fun b hb => ⟨hg.block b (Nat.lt_of_lt_of_le hb hB) (fun h => by have := Option.some.inj h; have hb' : b < Bm := hb; omega), hb⟩
theorem App.but {w w' : World} {Bm : Nat} {l : List ByteArray} {v : Value} (h : App w (Bm + 1) l v) (hg : w.grownBy w' (some Bm)) : App w' (Bm + 1) l v := by
  rcases h with h | h
  · obtain ⟨h1, h2 | ⟨g, cap, cur, hv, hb, hh, r⟩⟩ := h
    · exact Or.inl ⟨h1, Or.inl h2⟩
    · exact Or.inl ⟨h1, Or.inr ⟨g, cap, cur, hv, hb, by rw [hg.block g (Array.getElem?_eq_some_iff.1 hh).1 (by simp; omega)]; exact hh, r⟩⟩
  · exact Or.inr h
/-- The five cells of a boxed expression, where but one elder block has turned. -/
theorem box5_but {w wr : World} {Bm : Nat} {a b c d x : Value} {t : TypeId} (h : (w.alloc (.cells #[a, b, c, d, x] t)).grownBy wr (some Bm)) (hB : Bm < w.heap.size) :
    wr.cell? ⟨w.heap.size, 0, none⟩ = some a ∧ wr.cell? ⟨w.heap.size, 1, none⟩ = some b ∧ wr.cell? ⟨w.heap.size, 2, none⟩ = some c ∧ wr.cell? ⟨w.heap.size, 3, none⟩ = some d ∧ wr.cell? ⟨w.heap.size, 4, none⟩ = some x := by
  have key : ∀ j, wr.cell? ⟨w.heap.size, j, none⟩ = (#[a, b, c, d, x] : Array Value)[j]? := fun j => by
    rw [World.grownBy.cell_far h ⟨w.heap.size, j, none⟩ (by simp) (by simp; omega), cell_of_row _ _ _ _ _ _ (heap_alloc_new w _)]
  exact ⟨key 0, key 1, key 2, key 3, key 4⟩

/-- freeSet's closure, as a value. -/
abbrev foundV (Bm : Nat) : Value := .func (.func 36) #[] #[.pointer (some ⟨Bm + 1, 0, none⟩)]
/-- How walkFree ends. -/
def Walked (w w' : World) (Bm : Nat) (os : List ByteArray) (r : Ending) : Prop := r = .returned (.tuple #[]) ∧ Holds w' Bm os ∧ w.grownBy w' (some Bm)
/-- What walkFree does with an expression. -/
def WalkFree (e : Ex) : Prop := ∀ (w : World) (s v : Value) (l os : List ByteArray) (Bm : Nat) (d : Int), e.Wee → e.Fit → Lies w (· < Bm) e.kids s → App w (Bm + 1) l v → Holds w Bm os → sizeM e d ≤ 60 → 0 ≤ d → (l.length : Int) ≤ 2 * d → os.length + (occM e l).length ≤ 100000 →
  Calls Tryd.prog 35 #[e.val s, v, foundV Bm] w fun r w' => Walked w w' Bm (os ++ occM e l) r

set_option maxHeartbeats 2000000 in
theorem walk_walk (e : Ex) (ih : ∀ x ∈ e.kids, WalkFree x) : WalkFree e := by
  intro w s v l os Bm d hw hf hv hE hH hsz hd0 hld hol
  obtain ⟨hd14, hparts⟩ := sizeM_parts e d hsz
  obtain ⟨_, hkw, hw'⟩ := hw
  obtain ⟨_, hfn, _, _, hf'⟩ := hf
  obtain ⟨a, cap, rfl⟩ := hv.slice
  have hBz : Bm + 1 < w.heap.size := (Array.getElem?_eq_some_iff.1 hH.1).1
  have hM := occM_eq e l
  have hnm := hfn
  by_cases h3 : e.kind = 3
  · have hk0 : e.kids.length = 0 := by
      rw [sizeM_eq] at hsz
      split at hsz
      · omega
      · rename_i hn
        have : (e.kids.length : Int) = kidsN e.kind := by
          apply Decidable.byContradiction; intro hc; exact hn (Or.inr (Or.inl hc))
        rw [h3] at this; simp [kidsN] at this; simp [this]
    have hlp := fun w' hw' => impl_lastPlace l e.name v w' (by omega) (App.base (App.keep hE hw') (Nat.zero_le _))
    have h3' : (e.kind == 3) = true := by simpa using h3
    by_cases hneg : lastTo l e.name l.length < 0
    · have HM : Hid (occM e l = [e.name]) := by
        show _ = _
        rw [hM, if_pos ⟨h3, hneg⟩, List.length_eq_zero_iff.1 hk0]; rfl
      clear hM h3
      go_enter Tryd.func35, Tryd.ntmps35
      go_wp2_with (first
        | (go_at_call 31; refine (hlp _ (below_al0 _ _)).mono ?_; rintro r w2 ⟨rfl, rfl⟩)
        | (go_at_call 36; refine (impl_found e.name _ Bm os (hH.kept (below_al0 _ _)) hnm (by omega)).mono ?_; rintro r w2 ⟨rfl, hH2, hg2⟩; obtain ⟨p0, p1, p2, p3, p4⟩ := box5_but hg2 (by omega)))
      go_loopw [25] (fun i wr => i = .int .i64 0 ∧ wr = w2) (fun _ _ => 0)
      case atStart => exact ⟨rfl, rfl⟩
      case round =>
        obtain ⟨rfl, rfl⟩ := hrel
        go_wp2_with fail
        go_end0
        exact ⟨rfl, by rw [HM.out]; exact hH2, (World.grownBy_alloc w _ _).trans hg2⟩
    · have HM : Hid (occM e l = []) := by
        show _ = _
        rw [hM, if_neg (fun h => hneg h.2), List.length_eq_zero_iff.1 hk0]; rfl
      clear hM h3
      have hge : 0 ≤ lastTo l e.name l.length := by omega
      go_enter Tryd.func35, Tryd.ntmps35
      go_wp2_with (go_at_call 31; refine (hlp _ (below_al0 _ _)).mono ?_; rintro r w2 ⟨rfl, rfl⟩)
      go_loopw [25] (fun i wr => i = .int .i64 0 ∧ Below w.heap.size w wr) (fun _ _ => 0)
      case atStart => exact ⟨rfl, below_al0 _ _⟩
      case round =>
        obtain ⟨rfl, hbr⟩ := hrel
        go_wp2_with fail
        go_end0
        exact ⟨rfl, by rw [HM.out, List.append_nil]; exact hH.kept hbr, but_of_below Bm hbr⟩
  · have HM : Hid (occM e l = [] ++ occAll (e.kids.drop 0) (0 : Nat) (fun i => l ++ e.bindsAt i)) := by
      show _ = _
      rw [hM, if_neg (fun h => h3 h.1)]; rfl
    have h3' : (e.kind == 3) = false := by simpa using h3
    clear hM h3
    go_enter Tryd.func35, Tryd.ntmps35
    go_wp2_with fail
    go_loopw [25] (fun i wr => ∃ (k : Nat) (ps : List ByteArray), k ≤ e.kids.length ∧ i = .int .i64 k ∧ Hid (occM e l = ps ++ occAll (e.kids.drop k) k (fun i => l ++ e.bindsAt i)) ∧ Holds wr Bm (os ++ ps) ∧ (w.alloc (.cells #[.int .i64 e.kind, .string e.name, .string e.tail, .int .i64 e.num, .slice a e.kids.length cap] 28)).grownBy wr (some Bm)) (fun i _ => e.kids.length - (intOf i).toNat)
    case atStart => exact ⟨0, [], by omega, rfl, HM, by rw [List.append_nil]; exact hH.kept (below_al0 _ _), World.grownBy.refl _ _⟩
    case round =>
      obtain ⟨k, ps, hkl, rfl, HD, hHr, hG⟩ := hrel
      have hGw := (World.grownBy_alloc w (.cells #[.int .i64 e.kind, .string e.name, .string e.tail, .int .i64 e.num, .slice a e.kids.length cap] 28) (some Bm)).trans hG
      obtain ⟨p0, p1, p2, p3, p4⟩ := box5_but hG (by omega)
      by_cases hlt : k < e.kids.length
      · obtain ⟨b, off, cap', s1, hS, hsl, hr, hl⟩ := hv.at (List.getElem?_eq_getElem hlt)
        obtain ⟨rfl, rfl⟩ : a = some ⟨b, off, none⟩ ∧ cap = cap' := by simpa using hsl
        obtain ⟨c0, c1, c2, c3, c4⟩ := Ex.five (rangeAt_same (hGw.block b (by have hS' : b < Bm := hS; omega) (fun h => by have := Option.some.inj h; have hS' : b < Bm := hS; omega)) hr)
        have HX : Hid (occAll (e.kids.drop k) k (fun i => l ++ e.bindsAt i) = occM e.kids[k] (l ++ e.bindsAt k) ++ occAll (e.kids.drop (k + 1)) ((k : Int) + 1) (fun i => l ++ e.bindsAt i)) := occAll_drop e.kids k _ k hlt
        obtain ⟨a2, cap2, rfl⟩ := hl.slice
        have hzG := hGw.size
        have HS : ∀ w', (wr.alloc (.cells #[.int .i64 e.kids[k].kind, .string e.kids[k].name, .string e.kids[k].tail, .int .i64 e.kids[k].num, .slice a2 e.kids[k].kids.length cap2] 28)).grownBy w' (some Bm) → (w'.cell? ⟨w.heap.size, 0, none⟩ = some (.int .i64 e.kind) ∧ w'.cell? ⟨w.heap.size, 1, none⟩ = some (.string e.name) ∧ w'.cell? ⟨w.heap.size, 2, none⟩ = some (.string e.tail) ∧ w'.cell? ⟨w.heap.size, 3, none⟩ = some (.int .i64 e.num) ∧ w'.cell? ⟨w.heap.size, 4, none⟩ = some (.slice (some ⟨b, off, none⟩) e.kids.length cap) ∧ w'.cell? ⟨wr.heap.size, 0, none⟩ = some (.int .i64 e.kids[k].kind) ∧ w'.cell? ⟨wr.heap.size, 1, none⟩ = some (.string e.kids[k].name) ∧ w'.cell? ⟨wr.heap.size, 2, none⟩ = some (.string e.kids[k].tail) ∧ w'.cell? ⟨wr.heap.size, 3, none⟩ = some (.int .i64 e.kids[k].num) ∧ w'.cell? ⟨wr.heap.size, 4, none⟩ = some (.slice a2 e.kids[k].kids.length cap2)) := fun w' hg' => by
          obtain ⟨x0, x1, x2, x3, x4⟩ := box5_but ((hG.trans (World.grownBy_alloc wr _ _)).trans hg') (by omega)
          obtain ⟨y0, y1, y2, y3, y4⟩ := box5_but hg' (by omega)
          exact ⟨x0, x1, x2, x3, x4, y0, y1, y2, y3, y4⟩
        have hd1 : (wr.alloc (.cells #[.int .i64 e.kids[k].kind, .string e.kids[k].name, .string e.kids[k].tail, .int .i64 e.kids[k].num, .slice a2 e.kids[k].kids.length cap2] 28)).grownBy (wr.alloc (.cells #[.int .i64 e.kids[k].kind, .string e.kids[k].name, .string e.kids[k].tail, .int .i64 e.kids[k].num, .slice a2 e.kids[k].kids.length cap2] 28)).drew (some Bm) := ⟨rfl, rfl, rfl, Nat.le_refl _, fun _ _ _ => rfl⟩
        have hBX : Bm + 1 ≤ (wr.alloc (.cells #[.int .i64 e.kids[k].kind, .string e.kids[k].name, .string e.kids[k].tail, .int .i64 e.kids[k].num, .slice a2 e.kids[k].kids.length cap2] 28)).drew.heap.size := by simp [World.drew]; omega
        have hGX := (hGw.trans (World.grownBy_alloc wr (.cells #[.int .i64 e.kids[k].kind, .string e.kids[k].name, .string e.kids[k].tail, .int .i64 e.kids[k].num, .slice a2 e.kids[k].kids.length cap2] 28) (some Bm))).trans hd1
        have hEX : Env (wr.alloc (.cells #[.int .i64 e.kids[k].kind, .string e.kids[k].name, .string e.kids[k].tail, .int .i64 e.kids[k].num, .slice a2 e.kids[k].kids.length cap2] 28)).drew l v := App.base (App.but hE hGX) (Nat.zero_le _)
        have hHX : Holds (wr.alloc (.cells #[.int .i64 e.kids[k].kind, .string e.kids[k].name, .string e.kids[k].tail, .int .i64 e.kids[k].num, .slice a2 e.kids[k].kids.length cap2] 28)).drew Bm (os ++ ps) := hHr.kept (below_al0 _ _).drew
        have hlX := hl.but hGX (by omega)
        have hih := ih e.kids[k] (List.getElem_mem hlt)
        have hwk := hw' e.kids[k] (List.getElem_mem hlt)
        have hfk := hf' e.kids[k] (List.getElem_mem hlt)
        have hsk := hparts e.kids[k] (List.getElem_mem hlt)
        have hbt := bindsL_two e.kind e.name e.tail k
        have hlen : ((l ++ e.bindsAt k).length : Int) ≤ 2 * (d + 1) := by simp [Ex.bindsAt]; omega
        have hol2 : (os ++ ps).length + (occM e.kids[k] (l ++ e.bindsAt k)).length ≤ 100000 := by
          have h1 := HD.out; have h2 := HX.out
          rw [h1, h2] at hol; simp at hol ⊢; omega
        have hi1 : (k : Int) < (e.kids.length : Int) := by omega
        clear hr hsl ih hw' hf' hparts
        go_wp2_with fail
        go_region_held3 (fun w' => w'.cell? ⟨w.heap.size, 0, none⟩ = some (.int .i64 e.kind) ∧ w'.cell? ⟨w.heap.size, 1, none⟩ = some (.string e.name) ∧ w'.cell? ⟨w.heap.size, 2, none⟩ = some (.string e.tail) ∧ w'.cell? ⟨w.heap.size, 3, none⟩ = some (.int .i64 e.num) ∧ w'.cell? ⟨w.heap.size, 4, none⟩ = some (.slice (some ⟨b, off, none⟩) e.kids.length cap) ∧ w'.cell? ⟨wr.heap.size, 0, none⟩ = some (.int .i64 e.kids[k].kind) ∧ w'.cell? ⟨wr.heap.size, 1, none⟩ = some (.string e.kids[k].name) ∧ w'.cell? ⟨wr.heap.size, 2, none⟩ = some (.string e.kids[k].tail) ∧ w'.cell? ⟨wr.heap.size, 3, none⟩ = some (.int .i64 e.kids[k].num) ∧ w'.cell? ⟨wr.heap.size, 4, none⟩ = some (.slice a2 e.kids[k].kids.length cap2))
          (first | exact HS _ hc2 | exact HS _ hc1 | exact HS _ hd1)
          (first
            | (go_at_call 33; refine (impl_under_own _ _ _ _ _ _ l _ _ (by omega) hEX).mono ?_; rintro r w2 ⟨v1, rfl, he1, hb1⟩; have hc1 := hd1.trans (but_of_below Bm hb1))
            | (go_at_call 35; refine (hih _ _ _ (l ++ e.bindsAt k) (os ++ ps) Bm (d + 1) hwk hfk (hlX.but (but_of_below Bm hb1) (by omega)) (App.base he1 hBX) (hHX.kept hb1) hsk (by omega) hlen hol2).mono ?_; rintro r w3 ⟨rfl, hH3, hg3⟩; have hc2 := hc1.trans hg3))
        clear HS p0 p1 p2 p3 p4 c0 c1 c2 c3 c4
        go_wp2_with fail
        go_roundw
        case rel => exact ⟨k + 1, ps ++ occM e.kids[k] (l ++ e.bindsAt k), by omega, by go_num, by show _ = _; rw [HD.out, HX.out, List.append_assoc]; rfl, by rw [← List.append_assoc]; exact hH3, (hG.trans (World.grownBy_alloc wr _ _)).trans hc2⟩
        case measure => simp [intOf]; omega
      · have HE : Hid (occM e l = ps) := by show _ = _; rw [HD.out, List.drop_eq_nil_of_le (by omega), occAll, List.append_nil]
        go_wp2_with fail
        go_end0
        exact ⟨rfl, by rw [HE.out]; exact hHr, hGw⟩

theorem impl_walkFree (e : Ex) : WalkFree e := by
  induction e using Ex.ind with
  | h e ih => exact walk_walk e ih
end Go.Proofs.YtkjppjhmejkidaaDoor

namespace Go.Proofs.YtkjppjhmejkidaaDoor
open Go.RowKit Go.Maps Go.WideMaps

theorem occAll_length (d : Int) (f : Int → List ByteArray) : ∀ (es : List Ex) (i m : Int), (∀ e ∈ es, ∀ l, sizeM e d ≤ 60 → ((occM e l).length : Int) ≤ sizeM e d) → 0 ≤ m → sizeAll es d m ≤ 60 → m + ((occAll es i f).length : Int) ≤ sizeAll es d m
  | [], i, m, _, _, _ => by rw [occAll, sizeAll]; simp
  | e :: es, i, m, h, h1, h2 => by
    rw [sizeAll] at h2 ⊢
    rw [occAll]
    split at h2
    · omega
    · rename_i hs
      rw [if_neg hs]
      have hb := (sizeM_bd e d).1
      have he := h e (by simp) (f i) (by omega)
      have := occAll_length d f es (i + 1) (m + sizeM e d) (fun x hx => h x (by simp [hx])) (by omega) h2
      simp; omega
theorem occM_length (e : Ex) : ∀ d l, sizeM e d ≤ 60 → ((occM e l).length : Int) ≤ sizeM e d := by
  induction e using Ex.ind with
  | h e ih =>
    intro d l hd
    rw [occM_eq]
    rw [sizeM_eq] at hd ⊢
    split at hd
    · omega
    · rename_i hs
      rw [if_neg hs]
      have := occAll_length (d + 1) (fun i => l ++ e.bindsAt i) e.kids 0 1 (fun x hx l => ih x hx (d + 1) l) (by omega) hd
      rw [List.length_append]
      split <;> simp <;> omega

/-- The free names of expressions, where they stand. -/
def occs (es : List Ex) : List ByteArray := es.flatMap fun e => occM e []
theorem occs_take (es : List Ex) (k : Nat) (h : k < es.length) : occs (es.take (k + 1)) = occs (es.take k) ++ occM es[k] [] := by
  rw [occs, List.take_succ_eq_append_getElem h, List.flatMap_append]; simp [occs]
theorem occs_length (es : List Ex) (h : ∀ e ∈ es, sizeM e 1 ≤ 60) : (occs es).length ≤ 60 * es.length := by
  induction es with
  | nil => simp [occs]
  | cons e es ih =>
    have h1 := occM_length e 1 [] (h e (by simp))
    have h2 := h e (by simp)
    have h3 := ih (fun x hx => h x (by simp [hx]))
    simp only [occs, List.flatMap_cons, List.length_append, List.length_cons] at h3 ⊢
    omega

theorem below_of_but {w w' : World} {Bm : Nat} (h : w.grownBy w' (some Bm)) (hB : Bm ≤ w.heap.size) : Below Bm w w' := ⟨h.os, h.tape, h.output, h.size, fun k hk => h.block k (by omega) (by simp; omega)⟩
/-- How freeSet ends. -/
def Counted (w w' : World) (os : List ByteArray) (r : Ending) : Prop := r = .returned (.map (some w.heap.size)) ∧ Holds w' w.heap.size os ∧ Below w.heap.size w w'

set_option maxHeartbeats 1000000 in
theorem impl_freeSet (es : List Ex) (v : Value) (w : World) (hn : es.length ≤ 1000) (hw : ∀ e ∈ es, e.Wee) (hf : ∀ e ∈ es, e.Fit) (hs : ∀ e ∈ es, sizeM e 1 ≤ 60) (hv : Lies w (· < w.heap.size) es v) :
    Calls Tryd.prog 19 #[v] w fun r w' => Counted w w' (occs es) r := by
  have hmm := @run_makeMap Tryd.prog
  have hmf : ∀ (fn : Fn) (first cap : Array Value) (w : World), (Instr.makeFunc fn first cap).run Tryd.prog w = .ok (.func fn first cap) w := fun _ _ _ _ => rfl
  obtain ⟨a, cap, rfl⟩ := hv.slice
  go_enter Tryd.func19, Tryd.ntmps19
  go_wp2_with fail
  go_loopw [9] (fun i wr => ∃ k : Nat, k ≤ es.length ∧ i = .int .i64 k ∧ Holds wr w.heap.size (occs (es.take k)) ∧ Below w.heap.size w wr) (fun i _ => es.length - (intOf i).toNat)
  case atStart =>
    refine ⟨0, by omega, rfl, ⟨?_, _, (World.ownsMap_made w _ _ _).alloc _, fun s _ => ?_, fun s => rfl⟩, below_al (below_al0 _ _)⟩
    · simpa using heap_alloc_new (w.alloc (.map #[] 0)) (.cells #[.map (some w.heap.size)] 42)
    · rfl
  case round =>
    obtain ⟨k, hk, rfl, hH, hB⟩ := hrel
    have hcell : wr.cell? ⟨w.heap.size + 1, 0, none⟩ = some (.map (some w.heap.size)) := by rw [cell_of_row _ _ _ _ _ _ hH.1]; rfl
    by_cases hlt : k < es.length
    · obtain ⟨b, off, cap', s1, hS, hsl, hr, hl⟩ := hv.at (List.getElem?_eq_getElem hlt)
      obtain ⟨rfl, rfl⟩ : a = some ⟨b, off, none⟩ ∧ cap = cap' := by simpa using hsl
      obtain ⟨c0, c1, c2, c3, c4⟩ := Ex.five (rangeAt_same (hB.block b hS) hr)
      obtain ⟨a2, cap2, rfl⟩ := hl.slice
      have HX : Hid (occs (es.take (k + 1)) = occs (es.take k) ++ occM es[k] []) := occs_take es k hlt
      have hm : es[k] ∈ es := List.getElem_mem hlt
      have hlk := fun o => hl.keep (hB.alloc hB.size o) (Nat.le_refl _)
      have hHk := fun o => hH.kept (below_al0 wr o)
      have h60 := occM_length es[k] 1 [] (hs _ hm)
      have hol := occs_length (es.take k) (fun e he => hs e (List.mem_of_mem_take he))
      have hol2 : (occs (es.take k)).length + (occM es[k] []).length ≤ 100000 := by
        have := hs _ hm; simp at hol; omega
      have hwk := hw _ hm
      have hfk := hf _ hm
      have hsk := hs _ hm
      have hnil : ∀ o, App (wr.alloc o) (w.heap.size + 1) [] (.slice none 0 0) := fun _ => Or.inl (World.ownsRow_nil _ _ _ _)
      clear hr hsl h60 hol hcell
      go_wp2_with (go_at_call 35; refine (impl_walkFree es[k] _ _ _ [] _ w.heap.size 1 hwk hfk (hlk _) (hnil _) (hHk _) hsk (by omega) (by simp) hol2).mono ?_; rintro r w3 ⟨rfl, hH3, hg3⟩; have hb3 := below_of_but hg3 (by have := hB.size; simp; omega))
      go_roundw
      case rel => exact ⟨k + 1, by omega, by go_num, by rw [HX.out]; exact hH3, (below_al hB).trans hb3⟩
      case measure => simp [intOf]; omega
    · have HX : Hid (occs (es.take k) = occs es) := by show _ = _; rw [List.take_of_length_le (by omega)]
      go_wp2_with fail
      go_ret
      exact ⟨rfl, by rw [← HX.out]; exact hH, hB⟩
end Go.Proofs.YtkjppjhmejkidaaDoor

namespace Go.Proofs.YtkjppjhmejkidaaDoor
open Go.RowKit

theorem conv_one (w : World) (c : UInt8) (z : Int) (n : Nat) (hz : z = (c.toNat : Int)) (hn : n = w.heap.size) : (convert 61 9 (.slice (some ⟨n, 0, none⟩) 1 1)).run Tryd.prog (w.alloc (.cells #[.int .u8 z] 5)) = .ok (.string ⟨#[c]⟩) (w.alloc (.cells #[.int .u8 z] 5)) := by
  subst hn hz
  refine run_convert_bytes_back (P := Tryd.prog) _ 61 9 5 ⟨w.heap.size, 0, none⟩ 1 [c] Tryd.underlying61 Tryd.underlying5 Tryd.underlying9 ?_
  intro j hj
  obtain rfl : j = 0 := by simpa using hj
  exact cell_one_new _ _ _ 0 _ rfl

theorem run_conv (w : World) (c : UInt8) (z : Int) (n : Nat) (hz : z = (c.toNat : Int)) (hc : w.cell? ⟨n, 0, none⟩ = some (.int .u8 z)) : (convert 61 9 (.slice (some ⟨n, 0, none⟩) 1 1)).run Tryd.prog w = .ok (.string ⟨#[c]⟩) w := by
  subst hz
  refine run_convert_bytes_back (P := Tryd.prog) _ 61 9 5 ⟨n, 0, none⟩ 1 [c] Tryd.underlying61 Tryd.underlying5 Tryd.underlying9 ?_
  intro j hj
  obtain rfl : j = 0 := by simpa using hj
  rw [Addr.add_mid]; exact hc
theorem step_conv {ops : Array Oper} {o : Oper} {a : Act} {w : World} {K : Act → World → Prop} {Q : Exit → Act → World → Prop} {E : Prop}
    (hg : o.guard = none) (x : Operand) (hop : o.op = Op.convert 61 9 x) (c : UInt8) (z : Int) (n : Nat) (hx : a.eval x = .slice (some ⟨n, 0, none⟩) 1 1) (hc : w.cell? ⟨n, 0, none⟩ = some (.int .u8 z)) (hz : z = (c.toNat : Int))
    (hK : K (a.put o.dst (.string ⟨#[c]⟩)) w) :
    if Region.wanted o (yielded ops a.tmps) = true then Oper.wp Tryd.prog o a w K Q else E := by
  have hw : Region.wanted o (yielded ops a.tmps) = true := by simp [Region.wanted, hg]
  rw [if_pos hw]
  have hrun := run_conv w c z n hz hc
  unfold Oper.wp
  simp [execOp, hop, hx, hrun, Result.andThen]
  exact hK
theorem cell_new0 (w : World) (v : Value) (t : TypeId) (n : Nat) (hn : n = w.heap.size) : (w.alloc (.cells #[v] t)).cell? ⟨n, 0, none⟩ = some v := by subst hn; rw [cell_of_row _ _ _ _ _ _ (heap_alloc_new w _)]; rfl
theorem cell_later0 {w w2 : World} {v : Value} {t : TypeId} (hb : Below (w.alloc (.cells #[v] t)).heap.size (w.alloc (.cells #[v] t)) w2) : w2.cell? ⟨w.heap.size, 0, none⟩ = some v := by rw [hb.cell (by simp)]; exact cell_new0 _ _ _ _ rfl
end Go.Proofs.YtkjppjhmejkidaaDoor

namespace Go.Proofs.YtkjppjhmejkidaaDoor
open Go.RowKit Go.Shelf

shelf_lay Lays.n171 Nm 171 at Tryd as lays171

/-- A number in figures. -/
def decS (n : Nat) : ByteArray := ⟨(Lib.decDigits n).toArray⟩
theorem impl_Itoa (i : Nat) (hi : i < 100) (w : World) : Calls Tryd.prog 34 #[.int .i64 i] w fun e w' => e = .returned (.string (decS i)) ∧ w' = w := Any.strconv_Itoa_small lays171 i hi w

set_option maxRecDepth 100000 in
theorem dec_low (n : Nat) (hn : n < 10) (w : World) : Calls Tryd.prog 40 #[.int .i64 n] w fun r w' => r = .returned (.string (decS n)) ∧ Below w.heap.size w w' := by
  obtain ⟨c, hc⟩ : ∃ c : UInt8, c = UInt8.ofNat (48 + n) := ⟨_, rfl⟩
  have hcv := conv_one w c (48 + n) w.heap.size (by rw [hc]; simp; omega) rfl
  have HD : Hid (decS n = ⟨#[c]⟩) := by show _ = _; rw [decS, Lib.decDigits_one hn, hc]
  clear hc
  go_enter Tryd.func40, Tryd.ntmps40
  go_wp2_with fail
  go_ret
  exact ⟨by rw [HD.out]; rfl, (Below.refl _ _).alloc (Nat.le_refl _) _⟩
end Go.Proofs.YtkjppjhmejkidaaDoor

namespace Go.Proofs.YtkjppjhmejkidaaDoor
open Go.RowKit Go.Maps Go.WideMaps

/-- The letter w and a number. -/
def wName (i : Nat) : ByteArray := ⟨#[119]⟩ ++ decS i
/-- The first names that are not among os. -/
def tidyTo (os : List ByteArray) : Nat → List ByteArray
  | 0 => []
  | k + 1 => if oft os (wName k) = 0 then tidyTo os k ++ [wName k] else tidyTo os k
/-- How often the first names stand among os. -/
def hits (os : List ByteArray) : Nat → Nat
  | 0 => 0
  | k + 1 => hits os k + oft os (wName k)

/-- The number that figures are. -/
def valF (l : List UInt8) : Nat := l.foldl (fun a c => 10 * a + (c.toNat - 48)) 0
theorem val_dec (i : Nat) (h : i < 100) : valF (Lib.decDigits i) = i := by
  by_cases h10 : i < 10
  · rw [Lib.decDigits_one h10]; simp [valF]; omega
  · rw [Lib.decDigits_two h10 h]; simp [valF]; omega
theorem wName_data (i : Nat) : (wName i).data.toList = 119 :: Lib.decDigits i := by
  simp [wName, decS]
theorem wName_inj {i j : Nat} (hi : i < 100) (hj : j < 100) (h : (wName i).data.toList = (wName j).data.toList) : i = j := by
  rw [wName_data, wName_data] at h
  have h2 := (List.cons.inj h).2
  rw [← val_dec i hi, ← val_dec j hj, h2]
theorem oft_cons (x : ByteArray) (os : List ByteArray) (s : ByteArray) : oft (x :: os) s = oft os s + if x.data.toList == s.data.toList then 1 else 0 := by
  simp [oft, List.countP_cons]
theorem hits_one (x : ByteArray) : ∀ k, k ≤ 100 → hits [x] k ≤ 1 ∧ (hits [x] k = 1 → ∃ i, i < k ∧ x.data.toList = (wName i).data.toList)
  | 0, _ => ⟨by simp [hits], fun h => by simp [hits] at h⟩
  | k + 1, hk => by
    obtain ⟨h1, h2⟩ := hits_one x k (by omega)
    have ho : oft [x] (wName k) = if x.data.toList == (wName k).data.toList then 1 else 0 := by rw [oft_cons]; simp [oft]
    rw [hits, ho]
    by_cases he : x.data.toList = (wName k).data.toList
    · rw [if_pos (by simpa using he)]
      have h0 : hits [x] k = 0 := by
        apply Decidable.byContradiction; intro hn
        obtain ⟨i, hi, hx⟩ := h2 (by omega)
        have := wName_inj (by omega) (by omega) (hx.symm.trans he)
        omega
      exact ⟨by omega, fun _ => ⟨k, by omega, he⟩⟩
    · rw [if_neg (by simpa using he)]
      exact ⟨by omega, fun h => by obtain ⟨i, hi, hx⟩ := h2 (by omega); exact ⟨i, by omega, hx⟩⟩
theorem hits_cons (x : ByteArray) (os : List ByteArray) : ∀ k, hits (x :: os) k = hits os k + hits [x] k
  | 0 => by simp [hits]
  | k + 1 => by
    rw [hits, hits, hits, hits_cons x os k, oft_cons, oft_cons x []]
    simp [oft]; omega
theorem hits_le (os : List ByteArray) (k : Nat) (hk : k ≤ 100) : hits os k ≤ os.length := by
  induction os with
  | nil => induction k with
    | zero => simp [hits]
    | succ k ih => rw [hits]; have := ih (by omega); simp [oft] at *; omega
  | cons x os ih =>
    rw [hits_cons]
    have := (hits_one x k hk).1
    simp; omega
theorem tidy_hits (os : List ByteArray) : ∀ k, k ≤ (tidyTo os k).length + hits os k
  | 0 => by simp
  | k + 1 => by
    have := tidy_hits os k
    rw [tidyTo, hits]
    split
    · simp; omega
    · omega
end Go.Proofs.YtkjppjhmejkidaaDoor

namespace Go.Proofs.YtkjppjhmejkidaaDoor
open Go.RowKit

theorem run_append_src (ty : TypeId) (w : World) (B : Nat) (l m : List ByteArray) (v : Value) (ad2 : Addr) (c : Nat) (hv : App w B l v) (hc : ∀ j u, (m.map Value.string)[j]? = some u → w.cell? (ad2.add j) = some u) (hl : l.length ≤ 2000000) (hm : m.length ≤ 2000000) (hB : B ≤ w.heap.size) :
    ∃ v' w', (Builtin.append_ #[37, 37] ty #[v, .slice (some ad2) m.length c]).run Tryd.prog w = .ok v' w' ∧ App w' B (l ++ m) v' ∧ Below B w w' := by
  obtain ⟨i0, hi, hz0, hz1, hz2⟩ := strInfo'
  rcases hv with h | ⟨ad, rfl, rfl⟩
  · obtain ⟨v', w', hr, h2, h3, _⟩ := run_append_own (P := Tryd.prog) w B 37 ty 9 i0 (.string ⟨#[]⟩) 1 16 Tryd.underlying37 hi hz0 hz1 hz2 rfl (by decide) v l.length (l.map .string) h ad2 m.length c (m.map .string) (by simp) hc (strs_one m) (by unfold maxLen; omega) (by omega) hB
    exact ⟨v', w', hr, own_append h2, (Below.refl _ _).grown h3 hB (fun k hk => (h.lt k hk).1)⟩
  · cases m with
    | nil => exact ⟨_, w, run_append_empty ty ad ad2 c w, Or.inr ⟨ad, rfl, rfl⟩, Below.refl _ _⟩
    | cons s m =>
      obtain ⟨v', w', hr, h2, h3⟩ := run_append_arg_grows (P := Tryd.prog) w 37 ty 9 i0 (.string ⟨#[]⟩) 1 16 Tryd.underlying37 hi hz0 hz1 hz2 rfl (by decide) ad 0 0 [] rfl (fun j u hj => by simp at hj) ad2 (s :: m).length c ((s :: m).map .string) (by simp) hc (by simp) (by unfold maxLen; omega) (by omega)
      exact ⟨v', w', hr, App.base (own_append (l := []) (by simpa using h2)) hB, (Below.refl _ _).grown h3 hB (fun k hk => by cases hk)⟩

theorem wpList_append_app {ops : Array Oper} {rest : List Oper} {o : Oper} {a : Act} {w : World} {Q : Exit → Act → World → Prop} (hgd : o.guard = none) (s x : Operand)
    (ho : o.op = .call { callee := .builtin .append, args := #[s, x], argTypes := #[37, 37] })
    (B : Nat) (l m : List ByteArray) (v : Value) (hs : a.eval s = v) (hv : App w B l v) (ad : Addr) (c : Nat) (hx : a.eval x = .slice (some ad) m.length c)
    (hc : ∀ j u, (m.map Value.string)[j]? = some u → w.cell? (ad.add j) = some u) (hl : l.length ≤ 2000000) (hm : m.length ≤ 2000000) (hB : B ≤ w.heap.size)
    (h : ∀ v' w', App w' B (l ++ m) v' → Below B w w' → wpList Tryd.prog ops Q rest (a.put o.dst v') w') : wpList Tryd.prog ops Q (o :: rest) a w :=
  wpList_plain hgd fun K hK => by
    obtain ⟨v', w', hr, h2, h3⟩ := run_append_src o.type w B l m v ad c hv hc hl hm hB
    unfold Oper.wp execOp
    simp only [ho, resolve, invoke, builtin, Sem.run_bind, Sem.run_pure, Result.andThen_ok, List.map_toArray, List.map_cons, List.map_nil, hs, hx, hr]
    exact hK _ _ (h v' w' h2 h3)

/-- The order of names. -/
def lessB (a b : ByteArray) : Bool := Op.bytesLess a.toList b.toList
/-- A list of names with one more. -/
def withM : List ByteArray → ByteArray → List ByteArray
  | [], s => [s]
  | x :: xs, s => if lessB x s then x :: withM xs s else if x.toList == s.toList then x :: xs else s :: x :: xs
theorem withM_drop (l : List ByteArray) (s : ByteArray) (k : Nat) (hk : k < l.length) (h : withM l s = l.take k ++ withM (l.drop k) s) (hl : lessB l[k] s = true) : withM l s = l.take (k + 1) ++ withM (l.drop (k + 1)) s := by
  rw [h, List.drop_eq_getElem_cons hk, withM, if_pos hl, List.take_succ_eq_append_getElem hk, List.append_assoc]; rfl
theorem withM_eq (l : List ByteArray) (s : ByteArray) (k : Nat) (hk : k < l.length) (h : withM l s = l.take k ++ withM (l.drop k) s) (hl : lessB l[k] s = false) (he : (l[k].toList == s.toList) = true) : withM l s = l := by
  rw [h, List.drop_eq_getElem_cons hk, withM, if_neg (by simp [hl]), if_pos he, ← List.drop_eq_getElem_cons hk, List.take_append_drop]
theorem withM_new (l : List ByteArray) (s : ByteArray) (k : Nat) (hk : k < l.length) (h : withM l s = l.take k ++ withM (l.drop k) s) (hl : lessB l[k] s = false) (he : (l[k].toList == s.toList) = false) : withM l s = l.take k ++ [s] ++ l.drop k := by
  rw [h, List.drop_eq_getElem_cons hk, withM, if_neg (by simp [hl]), if_neg (by simp [he]), List.append_assoc]; rfl
theorem withM_end (l : List ByteArray) (s : ByteArray) (k : Nat) (hk : l.length ≤ k) (h : withM l s = l.take k ++ withM (l.drop k) s) : withM l s = l ++ [s] := by
  rw [h, List.drop_eq_nil_of_le hk, List.take_of_length_le hk, withM]

theorem withM_length (l : List ByteArray) (s : ByteArray) : (withM l s).length ≤ l.length + 1 := by
  induction l with
  | nil => simp [withM]
  | cons x xs ih =>
    rw [withM]
    split
    · simp; omega
    · split <;> simp

theorem wpList_append_nil {ops : Array Oper} {rest : List Oper} {o : Oper} {a : Act} {w : World} {Q : Exit → Act → World → Prop} (hgd : o.guard = none) (s x : Operand)
    (ho : o.op = .call { callee := .builtin .append, args := #[s, x], argTypes := #[37, 37] })
    (v : Value) (hs : a.eval s = v) (hv : (∃ ad n cap, v = .slice (some ad) n cap ∧ n ≤ cap) ∨ v = .slice none 0 0) (hx : a.eval x = .slice none 0 0)
    (h : wpList Tryd.prog ops Q rest (a.put o.dst v) w) : wpList Tryd.prog ops Q (o :: rest) a w :=
  wpList_plain hgd fun K hK => by
    have hr := run_append_none o.type v w hv
    unfold Oper.wp execOp
    simp only [ho, resolve, invoke, builtin, Sem.run_bind, Sem.run_pure, Result.andThen_ok, List.map_toArray, List.map_cons, List.map_nil, hs, hx, hr]
    exact hK _ _ h
theorem App.room {w : World} {B : Nat} {l : List ByteArray} {v : Value} (h : App w B l v) : (∃ ad n cap, v = .slice (some ad) n cap ∧ n ≤ cap) ∨ v = .slice none 0 0 := by
  rcases h with h | ⟨ad, rfl, _⟩
  · obtain ⟨_, ⟨rfl, _⟩ | ⟨g, cap, cur, rfl, _, _, hn, _⟩⟩ := h
    · exact Or.inr rfl
    · exact Or.inl ⟨_, _, _, rfl, hn⟩
  · exact Or.inl ⟨_, _, _, rfl, Nat.le_refl _⟩
theorem one_cell_new (w : World) (s : ByteArray) : ∀ j u, ([s].map Value.string)[j]? = some u → (w.alloc (.cells #[.string s] 9)).cell? ((⟨w.heap.size, 0, none⟩ : Addr).add j) = some u := cell_one_new _ _ _

end Go.Proofs.YtkjppjhmejkidaaDoor

