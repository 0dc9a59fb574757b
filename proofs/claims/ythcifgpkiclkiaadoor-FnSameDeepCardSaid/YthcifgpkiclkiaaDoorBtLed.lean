/-
  Marks in memory: the places to which words lead at once.
-/
import Derived.Test.YthcifgpkiclkiaaDoorBtPlaces
namespace Go.Proofs.YthcifgpkiclkiaaDoor
open Go.RowKit

/-- The places to which words lead. -/
def ledM (ws : List Wd) : Mks := ws.foldl (fun m d => if d.tag = 4 then m.add d.num.toNat else m) Mks.zero
theorem ledM_snoc (l : List Wd) (d : Wd) : ledM (l ++ [d]) = if d.tag = 4 then (ledM l).add d.num.toNat else ledM l := by
  simp [ledM]
theorem ledM_ok (l : List Wd) : (ledM l).ok := by
  suffices h : ∀ (l : List Wd) (m : Mks), m.ok → (l.foldl (fun m d => if d.tag = 4 then m.add d.num.toNat else m) m).ok from h l _ ⟨by decide, by decide, by decide, by decide⟩
  intro l
  induction l with
  | nil => exact fun _ h => h
  | cons d r ih =>
    intro m hm
    rw [List.foldl_cons]
    apply ih
    split
    · exact Mks.ok_add hm _
    · exact hm
theorem ledM_has (l : List Wd) (hl : ∀ d ∈ l, d.tag = 4 → 0 ≤ d.num ∧ d.num < 256) (q : Nat) (hq : q < 256) : (ledM l).has q = true ↔ ∃ d ∈ l, d.tag = 4 ∧ d.num = q := by
  suffices h : ∀ (l : List Wd) (m : Mks), (∀ d ∈ l, d.tag = 4 → 0 ≤ d.num ∧ d.num < 256) → ((l.foldl (fun m d => if d.tag = 4 then m.add d.num.toNat else m) m).has q = true ↔ m.has q = true ∨ ∃ d ∈ l, d.tag = 4 ∧ d.num = q) by
    have := h l Mks.zero hl
    rw [Mks.has_zero] at this
    simpa [ledM] using this
  intro l
  induction l with
  | nil => intro m _; simp
  | cons d r ih =>
    intro m hd
    rw [List.foldl_cons, ih _ (fun x hx => hd x (List.mem_cons_of_mem _ hx))]
    by_cases ht : d.tag = 4
    · obtain ⟨h0, h1⟩ := hd d List.mem_cons_self ht
      rw [if_pos ht, Mks.has_add (by omega) hq]
      simp only [Bool.or_eq_true, decide_eq_true_eq, List.mem_cons, exists_eq_or_imp]
      constructor
      · rintro ((h | h) | h)
        · exact Or.inr (Or.inl ⟨ht, by omega⟩)
        · exact Or.inl h
        · exact Or.inr (Or.inr h)
      · rintro (h | ⟨_, h⟩ | h)
        · exact Or.inl (Or.inr h)
        · exact Or.inl (Or.inl (by omega))
        · exact Or.inr h
    · rw [if_neg ht]
      simp only [List.mem_cons, exists_eq_or_imp]
      constructor
      · rintro (h | h)
        · exact Or.inl h
        · exact Or.inr (Or.inr h)
      · rintro (h | ⟨h, _⟩ | h)
        · exact Or.inl h
        · exact absurd h ht
        · exact Or.inr h

/-- Marks as a value. -/
def mkV (m : Mks) : Value := .agg #[.int .u64 m.a, .int .u64 m.b, .int .u64 m.c, .int .u64 m.d]
theorem bt_new (w : World) (o : Obj) : Below w.heap.size w (w.alloc o) := (Below.refl _ _).alloc (Nat.le_refl _) o

set_option maxRecDepth 100000 in
set_option maxHeartbeats 2000000 in
theorem impl_ledTo (ws : List Wd) (hn : ws.length ≤ 1000000) (hl : ∀ d ∈ ws, d.tag = 4 → 0 ≤ d.num ∧ d.num < 256) (w : World) (v : Value) (hv : RowOf 2 Wd.cells w (· < w.heap.size) ws v) :
    Calls Tryd.prog 11 #[v] w fun r w' => r = .returned (mkV (ledM ws)) ∧ Below w.heap.size w w' := by
  obtain ⟨a, cap, rfl⟩ := hv.slice
  go_enter Tryd.func11, Tryd.ntmps11
  have e0 : MkAt (w.alloc (mkBox Mks.zero)) w.heap.size Mks.zero := heap_alloc_new w _
  have e1 : MkAt ((w.alloc (mkBox Mks.zero)).alloc (mkBox Mks.zero)) (w.heap.size + 1) Mks.zero := by
    have := heap_alloc_new (w.alloc (mkBox Mks.zero)) (mkBox Mks.zero)
    rw [show (w.alloc (mkBox Mks.zero)).heap.size = w.heap.size + 1 by simp] at this
    exact this
  have e2 := e0.keep (bt_new (w.alloc (mkBox Mks.zero)) (mkBox Mks.zero))
  have e3 : Below w.heap.size w ((w.alloc (mkBox Mks.zero)).alloc (mkBox Mks.zero)) := (bt_new w _).trans ((bt_new _ _).mono (by simp))
  go_wp2_with fail
  go_loopg [8] ws.length (fun k i wr => ∃ j : Nat, j + k = ws.length ∧ i = .int .i64 j ∧ MkAt wr w.heap.size Mks.zero ∧ MkAt wr (w.heap.size + 1) (ledM (ws.take j)) ∧ Below w.heap.size w wr)
  case atStart => exact ⟨0, by omega, rfl, e2, e1, e3⟩
  case round =>
    clear e0 e1 e2 e3
    obtain ⟨j, hj, rfl, hR, hF, hB⟩ := hrel
    have hz := hB.size
    by_cases hlt : j < ws.length
    · have hji : (j : Int) < (ws.length : Int) := by omega
      obtain ⟨b, off, hS, rfl, hr⟩ := hv.at j hlt
      obtain ⟨q0, q1⟩ := Wd.two (rw_same (hB.block b hS) hr)
      have hd := hl ws[j] (List.getElem_mem hlt)
      have hsn : ws.take (j + 1) = ws.take j ++ [ws[j]] := List.take_succ_eq_append_getElem hlt
      have hled := ledM_snoc (ws.take j) ws[j]
      rw [← hsn] at hled
      have hok := ledM_ok (ws.take j)
      generalize ledM (ws.take j) = m at *
      have hB1 : Below w.heap.size w (wr.alloc (.cells #[.int .i64 ws[j].tag, .int .i64 ws[j].num] 25)) := hB.alloc hz _
      have hR1 := hR.keep (bt_new wr (.cells #[.int .i64 ws[j].tag, .int .i64 ws[j].num] 25))
      have hF1 := hF.keep (bt_new wr (.cells #[.int .i64 ws[j].tag, .int .i64 ws[j].num] 25))
      have hz1 := hB1.size
      clear hr hS hv hl hsn
      generalize ws[j] = d at *
      obtain ⟨t, u⟩ := d
      by_cases ht : t = 4
      · obtain rfl : t = 4 := ht
        obtain ⟨h0, h1⟩ := hd rfl
        obtain ⟨p, rfl⟩ : ∃ p : Nat, u = p := Int.eq_ofNat_of_zero_le h0
        have hpp : (p : Int) < 256 := h1
        have hA := impl_add m hok p (by omega) _ _ hF1
        have HL : Hid (ledM (ws.take (j + 1)) = m.add p) := by show _ = _; rw [hled]; simp
        clear hd hled h0 h1
        go_wp2_with (go_at_call 23; refine hA.mono ?_; rintro r w5 ⟨rfl, hF5, hG5⟩)
        go_roundg (ws.length - (j + 1))
        case measure => omega
        case rel => exact ⟨j + 1, by omega, by go_num, (hG5.block w.heap.size hR1.lt (by simp)).trans hR1, by rw [HL.out]; exact hF5, hB1.grown hG5 hz1 (fun k hk => by cases hk; omega)⟩
      · have hti : (t == 4) = false := by rw [beq_eq_false_iff_ne]; exact ht
        have HL : Hid (ledM (ws.take (j + 1)) = m) := by show _ = _; rw [hled, if_neg ht]
        clear ht hd hled
        go_wp2_with fail
        go_roundg (ws.length - (j + 1))
        case measure => omega
        case rel => exact ⟨j + 1, by omega, by go_num, hR1, by rw [HL.out]; exact hF1, hB1⟩
    · obtain rfl : j = ws.length := by omega
      have hji : ¬ (ws.length : Int) < (ws.length : Int) := by omega
      rw [List.take_length] at hF
      obtain ⟨m, hm⟩ : ∃ m, Hid (ledM ws = m) := ⟨_, rfl⟩
      rw [hm.out] at hF
      have c0 := hF.cell (i := 0) (by omega)
      have c1 := hF.cell (i := 1) (by omega)
      have c2 := hF.cell (i := 2) (by omega)
      have c3 := hF.cell (i := 3) (by omega)
      have d0 := hR.cell (i := 0) (by omega)
      have d1 := hR.cell (i := 1) (by omega)
      have d2 := hR.cell (i := 2) (by omega)
      have d3 := hR.cell (i := 3) (by omega)
      have f0 := hR.frozen 0
      have f1 := hR.frozen 1
      have f2 := hR.frozen 2
      have f3 := hR.frozen 3
      have hW : MkAt ((((wr.setCell ⟨w.heap.size, 0, none⟩ (.int .u64 (m.get 0 : Nat))).setCell ⟨w.heap.size, 1, none⟩ (.int .u64 (m.get 1 : Nat))).setCell ⟨w.heap.size, 2, none⟩ (.int .u64 (m.get 2 : Nat))).setCell ⟨w.heap.size, 3, none⟩ (.int .u64 (m.get 3 : Nat))) w.heap.size m := (((hR.set (by omega) _).set (by omega) _).set (by omega) _).set (by omega) _
      have hBW : Below w.heap.size w ((((wr.setCell ⟨w.heap.size, 0, none⟩ (.int .u64 (m.get 0 : Nat))).setCell ⟨w.heap.size, 1, none⟩ (.int .u64 (m.get 1 : Nat))).setCell ⟨w.heap.size, 2, none⟩ (.int .u64 (m.get 2 : Nat))).setCell ⟨w.heap.size, 3, none⟩ (.int .u64 (m.get 3 : Nat))) := (((hB.setCell (Nat.le_refl _) _).setCell (Nat.le_refl _) _).setCell (Nat.le_refl _) _).setCell (Nat.le_refl _) _
      go_wp2_with fail
      generalize World.setCell _ _ _ = W5 at *
      have g0 := hW.cell (i := 0) (by omega)
      have g1 := hW.cell (i := 1) (by omega)
      have g2 := hW.cell (i := 2) (by omega)
      have g3 := hW.cell (i := 3) (by omega)
      refine bodyPost_ret (v := mkV m) (by simp [results, Tryd.results11, go_sem, g0, g1, g2, g3]; rfl) rfl ?_
      exact ⟨by rw [hm.out], hBW⟩
end Go.Proofs.YthcifgpkiclkiaaDoor
