/-
  walkFree: each free name of an expression is found, in order.
-/
import Derived.Test.YtkkjpiikilhobaaGreatDoorNfHold
import Derived.Test.YtkkjpiikilhobaaGreatDoorNkMath
import Derived.Test.YtkkjpiikilhobaaGreatDoorNkStep
import Derived.Test.YtkkjpiikilhobaaGreatDoorExBox
import Derived.Maps.AppendAt
import Derived.Deep.AppendLies
import Derived.Deep.RegionHeld3
namespace Go.Proofs.YtkkjpiikilhobaaGreatDoor
open Go.RowKit Go.Maps Go.WideMaps

mutual
/-- Where free names stand in an expression, under what is bound around it. -/
def occM : Ex → List ByteArray → List ByteArray
  | .mk k n t _ ks, l => (if k = 3 ∧ lastTo l n l.length < 0 then [n] else []) ++ occAll ks 0 (fun i => l ++ bindsL k n t i)
def occAll : List Ex → Int → (Int → List ByteArray) → List ByteArray
  | [], _, _ => []
  | e :: es, i, f => occM e (f i) ++ occAll es (i + 1) f
end
theorem occM_eq (e : Ex) (l : List ByteArray) : occM e l = (if e.kind = 3 ∧ lastTo l e.name l.length < 0 then [e.name] else []) ++ occAll e.kids 0 (fun i => l ++ e.bindsAt i) := by
  cases e; rw [occM]; rfl
theorem occAll_drop (es : List Ex) (i : Int) (f : Int → List ByteArray) (k : Nat) (h : k < es.length) : occAll (es.drop k) i f = occM es[k] (f i) ++ occAll (es.drop (k + 1)) (i + 1) f := by
  rw [List.drop_eq_getElem_cons h, occAll]

theorem but_of_below {w w' : World} (Bm : Nat) (h : Below w.heap.size w w') : w.grownBy w' (some Bm) := ⟨h.os, h.tape, h.output, h.size, fun k hk _ => h.block k hk⟩
theorem Lies.but {w w' : World} {Bm : Nat} {es : List Ex} {v : Value} (h : Lies w (· < Bm) es v) (hg : w.grownBy w' (Option.some Bm)) (hB : Bm ≤ w.heap.size) : Lies w' (· < Bm) es v :=
  h.same fun b hb => ⟨hg.block b (Nat.lt_of_lt_of_le hb hB) (fun h => by have := Option.some.inj h; have hb' : b < Bm := hb; omega), hb⟩
theorem App.but {w w' : World} {Bm : Nat} {l : List ByteArray} {v : Value} (h : App w (Bm + 1) l v) (hg : w.grownBy w' (some Bm)) : App w' (Bm + 1) l v := by
  rcases h with h | h
  · obtain ⟨h1, h2 | ⟨g, cap, cur, hv, hb, hh, r⟩⟩ := h
    · exact Or.inl ⟨h1, Or.inl h2⟩
    · exact Or.inl ⟨h1, Or.inr ⟨g, cap, cur, hv, hb, by rw [hg.block g (Array.getElem?_eq_some_iff.1 hh).1 (by simp; omega)]; exact hh, r⟩⟩
  · exact Or.inr h
/-- The five cells of a boxed expression, where but one elder block has turned. -/
theorem box5_but {w wr : World} {Bm : Nat} {a b c d x : Value} {t : TypeId} (h : (w.alloc (.cells #[a, b, c, d, x] t)).grownBy wr (some Bm)) (hB : Bm < w.heap.size) :
    wr.cell? ⟨w.heap.size, 0, none⟩ = some a ∧ wr.cell? ⟨w.heap.size, 1, none⟩ = some b ∧ wr.cell? ⟨w.heap.size, 2, none⟩ = some c ∧ wr.cell? ⟨w.heap.size, 3, none⟩ = some d ∧ wr.cell? ⟨w.heap.size, 4, none⟩ = some x := by
  have key : ∀ j, wr.cell? ⟨w.heap.size, j, none⟩ = (#[a, b, c, d, x] : Array Value)[j]? := fun j => by
    rw [World.grownBy.cell_far h ⟨w.heap.size, j, none⟩ (by simp) (by simp; omega), cell_of_row _ _ _ _ _ _ (heap_alloc_new w _)]
  exact ⟨key 0, key 1, key 2, key 3, key 4⟩

/-- freeSet's closure, as a value. -/
abbrev foundV (Bm : Nat) : Value := .func (.func 33) #[] #[.pointer (some ⟨Bm + 1, 0, none⟩)]
/-- How walkFree ends. -/
def Walked (w w' : World) (Bm : Nat) (os : List ByteArray) (r : Ending) : Prop := r = .returned (.tuple #[]) ∧ Holds w' Bm os ∧ w.grownBy w' (some Bm)
/-- What walkFree does with an expression. -/
def WalkFree (e : Ex) : Prop := ∀ (w : World) (s v : Value) (l os : List ByteArray) (Bm : Nat) (d : Int), e.Wee → e.Fit → Lies w (· < Bm) e.kids s → App w (Bm + 1) l v → Holds w Bm os → sizeM e d ≤ 60 → 0 ≤ d → (l.length : Int) ≤ 2 * d → os.length + (occM e l).length ≤ 100000 →
  Calls Tryz.prog 32 #[e.val s, v, foundV Bm] w fun r w' => Walked w w' Bm (os ++ occM e l) r

set_option maxHeartbeats 2000000 in
theorem walk_walk (e : Ex) (ih : ∀ x ∈ e.kids, WalkFree x) : WalkFree e := by
  intro w s v l os Bm d hw hf hv hE hH hsz hd0 hld hol
  obtain ⟨hd14, hparts⟩ := sizeM_parts e d hsz
  obtain ⟨_, hkw, hw'⟩ := hw
  obtain ⟨_, hfn, _, _, hf'⟩ := hf
  obtain ⟨a, cap, rfl⟩ := hv.slice
  have hBz : Bm + 1 < w.heap.size := (Array.getElem?_eq_some_iff.1 hH.1).1
  have hM := occM_eq e l
  have hnm := hfn
  by_cases h3 : e.kind = 3
  · have hk0 : e.kids.length = 0 := by
      rw [sizeM_eq] at hsz
      split at hsz
      · omega
      · rename_i hn
        have : (e.kids.length : Int) = kidsN e.kind := by
          apply Decidable.byContradiction; intro hc; exact hn (Or.inr (Or.inl hc))
        rw [h3] at this; simp [kidsN] at this; simp [this]
    have hlp := fun w' hw' => impl_lastPlace l e.name v w' (by omega) (App.base (App.keep hE hw') (Nat.zero_le _))
    have h3' : (e.kind == 3) = true := by simpa using h3
    by_cases hneg : lastTo l e.name l.length < 0
    · have HM : Hid (occM e l = [e.name]) := by
        show _ = _
        rw [hM, if_pos ⟨h3, hneg⟩, List.length_eq_zero_iff.1 hk0]; rfl
      clear hM h3
      go_enter Tryz.func32, Tryz.ntmps32
      go_wp2_with (first
        | (go_at_call 41; refine (hlp _ (below_al0 _ _)).mono ?_; rintro r w2 ⟨rfl, rfl⟩)
        | (go_at_call 33; refine (impl_found e.name _ Bm os (hH.kept (below_al0 _ _)) hnm (by omega)).mono ?_; rintro r w2 ⟨rfl, hH2, hg2⟩; obtain ⟨p0, p1, p2, p3, p4⟩ := box5_but hg2 (by omega)))
      go_loopw [25] (fun i wr => i = .int .i64 0 ∧ wr = w2) (fun _ _ => 0)
      case atStart => exact ⟨rfl, rfl⟩
      case round =>
        obtain ⟨rfl, rfl⟩ := hrel
        go_wp2_with fail
        go_end0
        exact ⟨rfl, by rw [HM.out]; exact hH2, (World.grownBy_alloc w _ _).trans hg2⟩
    · have HM : Hid (occM e l = []) := by
        show _ = _
        rw [hM, if_neg (fun h => hneg h.2), List.length_eq_zero_iff.1 hk0]; rfl
      clear hM h3
      have hge : 0 ≤ lastTo l e.name l.length := by omega
      go_enter Tryz.func32, Tryz.ntmps32
      go_wp2_with (go_at_call 41; refine (hlp _ (below_al0 _ _)).mono ?_; rintro r w2 ⟨rfl, rfl⟩)
      go_loopw [25] (fun i wr => i = .int .i64 0 ∧ Below w.heap.size w wr) (fun _ _ => 0)
      case atStart => exact ⟨rfl, below_al0 _ _⟩
      case round =>
        obtain ⟨rfl, hbr⟩ := hrel
        go_wp2_with fail
        go_end0
        exact ⟨rfl, by rw [HM.out, List.append_nil]; exact hH.kept hbr, but_of_below Bm hbr⟩
  · have HM : Hid (occM e l = [] ++ occAll (e.kids.drop 0) (0 : Nat) (fun i => l ++ e.bindsAt i)) := by
      show _ = _
      rw [hM, if_neg (fun h => h3 h.1)]; rfl
    have h3' : (e.kind == 3) = false := by simpa using h3
    clear hM h3
    go_enter Tryz.func32, Tryz.ntmps32
    go_wp2_with fail
    go_loopw [25] (fun i wr => ∃ (k : Nat) (ps : List ByteArray), k ≤ e.kids.length ∧ i = .int .i64 k ∧ Hid (occM e l = ps ++ occAll (e.kids.drop k) k (fun i => l ++ e.bindsAt i)) ∧ Holds wr Bm (os ++ ps) ∧ (w.alloc (.cells #[.int .i64 e.kind, .string e.name, .string e.tail, .int .i64 e.num, .slice a e.kids.length cap] 30)).grownBy wr (some Bm)) (fun i _ => e.kids.length - (intOf i).toNat)
    case atStart => exact ⟨0, [], by omega, rfl, HM, by rw [List.append_nil]; exact hH.kept (below_al0 _ _), World.grownBy.refl _ _⟩
    case round =>
      obtain ⟨k, ps, hkl, rfl, HD, hHr, hG⟩ := hrel
      have hGw := (World.grownBy_alloc w (.cells #[.int .i64 e.kind, .string e.name, .string e.tail, .int .i64 e.num, .slice a e.kids.length cap] 30) (some Bm)).trans hG
      obtain ⟨p0, p1, p2, p3, p4⟩ := box5_but hG (by omega)
      by_cases hlt : k < e.kids.length
      · obtain ⟨b, off, cap', s1, hS, hsl, hr, hl⟩ := hv.at (List.getElem?_eq_getElem hlt)
        obtain ⟨rfl, rfl⟩ : a = some ⟨b, off, none⟩ ∧ cap = cap' := by simpa using hsl
        obtain ⟨c0, c1, c2, c3, c4⟩ := Ex.five (rangeAt_same (hGw.block b (by have hS' : b < Bm := hS; omega) (fun h => by have := Option.some.inj h; have hS' : b < Bm := hS; omega)) hr)
        have HX : Hid (occAll (e.kids.drop k) k (fun i => l ++ e.bindsAt i) = occM e.kids[k] (l ++ e.bindsAt k) ++ occAll (e.kids.drop (k + 1)) ((k : Int) + 1) (fun i => l ++ e.bindsAt i)) := occAll_drop e.kids k _ k hlt
        obtain ⟨a2, cap2, rfl⟩ := hl.slice
        have hzG := hGw.size
        have HS : ∀ w', (wr.alloc (.cells #[.int .i64 e.kids[k].kind, .string e.kids[k].name, .string e.kids[k].tail, .int .i64 e.kids[k].num, .slice a2 e.kids[k].kids.length cap2] 30)).grownBy w' (some Bm) → (w'.cell? ⟨w.heap.size, 0, none⟩ = some (.int .i64 e.kind) ∧ w'.cell? ⟨w.heap.size, 1, none⟩ = some (.string e.name) ∧ w'.cell? ⟨w.heap.size, 2, none⟩ = some (.string e.tail) ∧ w'.cell? ⟨w.heap.size, 3, none⟩ = some (.int .i64 e.num) ∧ w'.cell? ⟨w.heap.size, 4, none⟩ = some (.slice (some ⟨b, off, none⟩) e.kids.length cap) ∧ w'.cell? ⟨wr.heap.size, 0, none⟩ = some (.int .i64 e.kids[k].kind) ∧ w'.cell? ⟨wr.heap.size, 1, none⟩ = some (.string e.kids[k].name) ∧ w'.cell? ⟨wr.heap.size, 2, none⟩ = some (.string e.kids[k].tail) ∧ w'.cell? ⟨wr.heap.size, 3, none⟩ = some (.int .i64 e.kids[k].num) ∧ w'.cell? ⟨wr.heap.size, 4, none⟩ = some (.slice a2 e.kids[k].kids.length cap2)) := fun w' hg' => by
          obtain ⟨x0, x1, x2, x3, x4⟩ := box5_but ((hG.trans (World.grownBy_alloc wr _ _)).trans hg') (by omega)
          obtain ⟨y0, y1, y2, y3, y4⟩ := box5_but hg' (by omega)
          exact ⟨x0, x1, x2, x3, x4, y0, y1, y2, y3, y4⟩
        have hd1 : (wr.alloc (.cells #[.int .i64 e.kids[k].kind, .string e.kids[k].name, .string e.kids[k].tail, .int .i64 e.kids[k].num, .slice a2 e.kids[k].kids.length cap2] 30)).grownBy (wr.alloc (.cells #[.int .i64 e.kids[k].kind, .string e.kids[k].name, .string e.kids[k].tail, .int .i64 e.kids[k].num, .slice a2 e.kids[k].kids.length cap2] 30)).drew (some Bm) := ⟨rfl, rfl, rfl, Nat.le_refl _, fun _ _ _ => rfl⟩
        have hBX : Bm + 1 ≤ (wr.alloc (.cells #[.int .i64 e.kids[k].kind, .string e.kids[k].name, .string e.kids[k].tail, .int .i64 e.kids[k].num, .slice a2 e.kids[k].kids.length cap2] 30)).drew.heap.size := by simp [World.drew]; omega
        have hGX := (hGw.trans (World.grownBy_alloc wr (.cells #[.int .i64 e.kids[k].kind, .string e.kids[k].name, .string e.kids[k].tail, .int .i64 e.kids[k].num, .slice a2 e.kids[k].kids.length cap2] 30) (some Bm))).trans hd1
        have hEX : Env (wr.alloc (.cells #[.int .i64 e.kids[k].kind, .string e.kids[k].name, .string e.kids[k].tail, .int .i64 e.kids[k].num, .slice a2 e.kids[k].kids.length cap2] 30)).drew l v := App.base (App.but hE hGX) (Nat.zero_le _)
        have hHX : Holds (wr.alloc (.cells #[.int .i64 e.kids[k].kind, .string e.kids[k].name, .string e.kids[k].tail, .int .i64 e.kids[k].num, .slice a2 e.kids[k].kids.length cap2] 30)).drew Bm (os ++ ps) := hHr.kept (below_al0 _ _).drew
        have hlX := hl.but hGX (by omega)
        have hih := ih e.kids[k] (List.getElem_mem hlt)
        have hwk := hw' e.kids[k] (List.getElem_mem hlt)
        have hfk := hf' e.kids[k] (List.getElem_mem hlt)
        have hsk := hparts e.kids[k] (List.getElem_mem hlt)
        have hbt := bindsL_two e.kind e.name e.tail k
        have hlen : ((l ++ e.bindsAt k).length : Int) ≤ 2 * (d + 1) := by simp [Ex.bindsAt]; omega
        have hol2 : (os ++ ps).length + (occM e.kids[k] (l ++ e.bindsAt k)).length ≤ 100000 := by
          have h1 := HD.out; have h2 := HX.out
          rw [h1, h2] at hol; simp at hol ⊢; omega
        have hi1 : (k : Int) < (e.kids.length : Int) := by omega
        clear hr hsl ih hw' hf' hparts
        go_wp2_with fail
        go_region_held3 (fun w' => w'.cell? ⟨w.heap.size, 0, none⟩ = some (.int .i64 e.kind) ∧ w'.cell? ⟨w.heap.size, 1, none⟩ = some (.string e.name) ∧ w'.cell? ⟨w.heap.size, 2, none⟩ = some (.string e.tail) ∧ w'.cell? ⟨w.heap.size, 3, none⟩ = some (.int .i64 e.num) ∧ w'.cell? ⟨w.heap.size, 4, none⟩ = some (.slice (some ⟨b, off, none⟩) e.kids.length cap) ∧ w'.cell? ⟨wr.heap.size, 0, none⟩ = some (.int .i64 e.kids[k].kind) ∧ w'.cell? ⟨wr.heap.size, 1, none⟩ = some (.string e.kids[k].name) ∧ w'.cell? ⟨wr.heap.size, 2, none⟩ = some (.string e.kids[k].tail) ∧ w'.cell? ⟨wr.heap.size, 3, none⟩ = some (.int .i64 e.kids[k].num) ∧ w'.cell? ⟨wr.heap.size, 4, none⟩ = some (.slice a2 e.kids[k].kids.length cap2))
          (first | exact HS _ hc2 | exact HS _ hc1 | exact HS _ hd1)
          (first
            | (go_at_call 42; refine (impl_under_own _ _ _ _ _ _ l _ _ (by omega) hEX).mono ?_; rintro r w2 ⟨v1, rfl, he1, hb1⟩; have hc1 := hd1.trans (but_of_below Bm hb1))
            | (go_at_call 32; refine (hih _ _ _ (l ++ e.bindsAt k) (os ++ ps) Bm (d + 1) hwk hfk (hlX.but (but_of_below Bm hb1) (by omega)) (App.base he1 hBX) (hHX.kept hb1) hsk (by omega) hlen hol2).mono ?_; rintro r w3 ⟨rfl, hH3, hg3⟩; have hc2 := hc1.trans hg3))
        clear HS p0 p1 p2 p3 p4 c0 c1 c2 c3 c4
        go_wp2_with fail
        go_roundw
        case rel => exact ⟨k + 1, ps ++ occM e.kids[k] (l ++ e.bindsAt k), by omega, by go_num, by show _ = _; rw [HD.out, HX.out, List.append_assoc]; rfl, by rw [← List.append_assoc]; exact hH3, (hG.trans (World.grownBy_alloc wr _ _)).trans hc2⟩
        case measure => simp [intOf]; omega
      · have HE : Hid (occM e l = ps) := by show _ = _; rw [HD.out, List.drop_eq_nil_of_le (by omega), occAll, List.append_nil]
        go_wp2_with fail
        go_end0
        exact ⟨rfl, by rw [HE.out]; exact hHr, hGw⟩

theorem impl_walkFree (e : Ex) : WalkFree e := by
  induction e using Ex.ind with
  | h e ih => exact walk_walk e ih
end Go.Proofs.YtkkjpiikilhobaaGreatDoor
