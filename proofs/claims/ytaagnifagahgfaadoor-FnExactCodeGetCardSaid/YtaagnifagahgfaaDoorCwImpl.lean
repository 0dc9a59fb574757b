/-
  The program's codeText, CodePut.
-/
import Derived.Test.YtaagnifagahgfaaDoorCwHas
namespace Go.Proofs.YtaagnifagahgfaaDoor
open Go.RowKit

/-- The table of the words of ops lies where the program's text lays it. -/
def OTab (w : World) : Prop := ∃ t fr, w.heap[0]? = some (.cells codeVals t fr)
theorem OTab.pos {w : World} (h : OTab w) : 0 < w.heap.size := by
  obtain ⟨t, fr, h⟩ := h
  exact (Array.getElem?_eq_some_iff.1 h).1
theorem OTab.keep {w w' : World} (h : OTab w) (hb : Below w.heap.size w w') : OTab w' := by
  obtain ⟨t, fr, h1⟩ := h
  exact ⟨t, fr, (hb.block _ (Array.getElem?_eq_some_iff.1 h1).1).trans h1⟩
theorem OTab.cell {w : World} (h : OTab w) (j : Nat) : w.cell? ⟨0, j, none⟩ = codeVals[j]? := by
  obtain ⟨t, fr, h⟩ := h
  exact cell_of_row _ _ _ _ _ _ h
theorem cw_next {w w2 w3 : World} (h1 : Below w.heap.size w w2) (h2 : Below w2.heap.size w2 w3) : Below w.heap.size w w3 := h1.trans (h2.mono h1.size)
theorem cw_oth {b : Nat} {w w' : World} (h : Below w.heap.size w w') : Oth b w w' := fun k o hk _ _ => by
  rw [h.block k (Array.getElem?_eq_some_iff.1 hk).1]
  exact hk
/-- Behind each writing: the text so far, a box of the caller's own, the frame. -/
structure KO (w : World) (x : Obj) (B b : Nat) (s : List UInt8) (w' : World) : Prop where
  t : Bld w' B b s
  x : w'.heap[w.heap.size]? = some x
  l : Below B w w'
theorem KO.next {w w' w2 : World} {x : Obj} {B b : Nat} {s s' : List UInt8} (h : KO w x B b s w') (hx : ∀ c fz, x ≠ .cells c 5 fz) (hne : w.heap.size ≠ b) (hw : Bld w2 B b s') (hb : Below B w' w2) (ho : Oth b w' w2) : KO w x B b s' w2 :=
  ⟨hw, ho _ _ h.x (by simpa using hne) hx, h.l.trans hb⟩
theorem KO.grow {w w' w2 : World} {x : Obj} {B b : Nat} {s : List UInt8} (h : KO w x B b s w') (hB : B ≤ w.heap.size) (hb : Below w'.heap.size w' w2) : KO w x B b s w2 :=
  ⟨bld_keep h.t hb, by rw [hb.block _ (Array.getElem?_eq_some_iff.1 h.x).1]; exact h.x, h.l.trans (hb.mono (Nat.le_trans hB h.l.size))⟩
theorem sp_num (op : Wd) : (⟨#[32]⟩ : ByteArray) ++ bx (Lib.itoa op.num) = bx ([32] ++ Lib.itoa op.num) := bx_app [32] _

set_option maxRecDepth 100000 in
set_option maxHeartbeats 8000000 in
theorem impl_codeText (ops : List Wd) (hl : ops.length ≤ 200) (hf : ∀ x ∈ ops, OpFine x) (w : World) (v : Value) (hv : Words w (· < w.heap.size) ops v) (hT : PowTab w) (hC : OTab w) :
    Calls Tryd.prog 19 #[v] w fun r w' => r = .returned (.string (bx (codeT ops))) ∧ Below w.heap.size w w' := by
  obtain ⟨a, cap, rfl⟩ := hv.slice
  have hV : Hid (Words w (· < w.heap.size) ops (.slice a ops.length cap)) := hv
  have hlen := fun k => take_ops_len ops k hf
  have n0 : Bld (w.alloc (.cells #[.pointer none, .slice none 0 0] 68)) w.heap.size w.heap.size [] := bld_new w
  have k0 : Below w.heap.size w (w.alloc (.cells #[.pointer none, .slice none 0 0] 68)) := (Below.refl _ _).alloc (Nat.le_refl _) _
  clear hv
  go_enter Tryd.func19, Tryd.ntmps19
  go_wp2_with fail
  go_loopg [8] ops.length (fun g i wr => ∃ k : Nat, k + g = ops.length ∧ i = .int .i64 (k : Int) ∧ Bld wr w.heap.size w.heap.size ((ops.take k).flatMap opT) ∧ Below w.heap.size w wr)
  case atStart => exact ⟨0, by omega, rfl, n0, k0⟩
  case round =>
    clear n0 k0
    obtain ⟨k, hk, rfl, hBr, hAr⟩ := hrel
    have hzb := bld_lt hBr
    by_cases hlt : k < ops.length
    · obtain ⟨b, off, hS, rfl, hr⟩ := hV.out.at k hlt
      obtain ⟨d0, d1⟩ := Wd.two (rw_same (hAr.block b hS) hr)
      clear hr
      have hki : (k : Int) < (ops.length : Int) := by omega
      have hx := hf _ (List.getElem_mem hlt)
      have hbk := hlen k
      have hTK := take_ops ops k hlt
      generalize ops[k] = op at d0 d1 hx hTK
      obtain ⟨tg, nm⟩ := op
      obtain ⟨hx1, hx2⟩ := hx
      have hx2 : In64 nm := hx2
      obtain ⟨kn, hkn⟩ : ∃ kn : Nat, tg = (kn : Int) + 1 := ⟨(tg - 1).toNat, by have : 1 ≤ tg := hx1.1; omega⟩
      have hk24 : kn < 24 := by have : tg ≤ 24 := hx1.2; omega
      have hkt := code_tab hk24
      rw [← hkn] at hkt
      have hil := itoa_len nm hx2
      have hcl := codeB_len tg
      have hsp := sp_num ⟨tg, nm⟩
      generalize hs0 : (ops.take k).flatMap opT = s0 at *
      have hne : wr.heap.size ≠ w.heap.size := by omega
      have hzz : w.heap.size ≤ wr.heap.size := by omega
      have hxx : ∀ cc fz, (Obj.cells #[.int .i64 tg, .int .i64 nm] 33) ≠ .cells cc 5 fz := by intro cc fz e; cases e
      have hK0 : KO wr (.cells #[.int .i64 tg, .int .i64 nm] 33) w.heap.size w.heap.size s0 (wr.alloc (.cells #[.int .i64 tg, .int .i64 nm] 33)) := ⟨bld_keep hBr ((Below.refl _ _).alloc (Nat.le_refl _) _), heap_alloc_new wr _, (Below.refl _ _).alloc hzz _⟩
      have HI : ∀ (w' : World) (s : List UInt8), KO wr (.cells #[.int .i64 tg, .int .i64 nm] 33) w.heap.size w.heap.size s w' → Calls Tryd.prog 36 #[.int .i64 nm] w' fun e w2 => e = .returned (.string (bx (Lib.itoa nm))) ∧ KO wr (.cells #[.int .i64 tg, .int .i64 nm] 33) w.heap.size w.heap.size s w2 := fun w' s hk => (impl_Itoa nm hx2.1 hx2.2 w' (hT.keep (hAr.trans hk.l))).mono fun e w2 ⟨h1, h2⟩ => ⟨h1, hk.grow hzz h2⟩
      have HN : ∀ (w' : World) (s : List UInt8), KO wr (.cells #[.int .i64 tg, .int .i64 nm] 33) w.heap.size w.heap.size s w' → Calls Tryd.prog 35 #[.agg #[.int .i64 tg, .int .i64 nm]] w' fun e w2 => e = .returned (.bool (hasM tg)) ∧ KO wr (.cells #[.int .i64 tg, .int .i64 nm] 33) w.heap.size w.heap.size s w2 := fun w' s hk => (impl_hasNum tg nm w' hx1).mono fun e w2 ⟨h1, h2⟩ => ⟨h1, hk.grow hzz h2⟩
      have HW : ∀ (w' : World) (s u : List UInt8), s.length + u.length ≤ 10000000 → KO wr (.cells #[.int .i64 tg, .int .i64 nm] 33) w.heap.size w.heap.size s w' → Calls Tryd.prog 34 #[.pointer (some ⟨w.heap.size, 0, none⟩), .string (bx u)] w' fun e w2 => (∃ n, e = .returned (.tuple #[.int .i64 n, .nilIface])) ∧ KO wr (.cells #[.int .i64 tg, .int .i64 nm] 33) w.heap.size w.heap.size (s ++ u) w2 := fun w' s u hl hk => (bld_write w' _ _ s u hk.t (by omega) (Nat.le_trans hzz hk.l.size)).mono fun e w2 ⟨h1, h2, h3, h4⟩ => ⟨h1, hk.next hxx hne h2 h3 h4⟩
      have HC : Hid (∀ (w' : World) (s : List UInt8), KO wr (.cells #[.int .i64 tg, .int .i64 nm] 33) w.heap.size w.heap.size s w' → (w'.cell? ⟨wr.heap.size, 0, none⟩ = some (.int .i64 tg) ∧ w'.cell? ⟨wr.heap.size, 1, none⟩ = some (.int .i64 nm)) ∧ w'.cell? ⟨0, kn, none⟩ = some (.string (bx (codeB tg)))) := fun w' s hk => ⟨⟨by rw [cell_of_row _ _ _ _ _ _ hk.x]; rfl, by rw [cell_of_row _ _ _ _ _ _ hk.x]; rfl⟩, by rw [(hC.keep (hAr.trans hk.l)).cell]; exact hkt⟩
      obtain ⟨⟨x0, x1⟩, t0⟩ := HC.out _ _ hK0
      have wr1 : IntKind.i64.wrap (tg - 1) = (kn : Int) := by rw [hkn]; exact (ck_wr _ (by omega) (by omega)).trans (by omega)
      have wr2 : IntKind.i64.wrap ((k : Int) + 1) = (k : Int) + 1 := ck_wr _ (by omega) (by omega)
      have hki24 : (kn : Int) < 24 := by omega
      have hgl := hC.pos
      have HK0 : Hid (KO wr (.cells #[.int .i64 tg, .int .i64 nm] 33) w.heap.size w.heap.size s0 (wr.alloc (.cells #[.int .i64 tg, .int .i64 nm] 33))) := hK0
      have hn2 : (numT ⟨tg, nm⟩).length ≤ 21 := by
        unfold numT
        split
        · simp; omega
        · simp
      have HW1 : ∀ (w' : World), KO wr (.cells #[.int .i64 tg, .int .i64 nm] 33) w.heap.size w.heap.size s0 w' → Calls Tryd.prog 34 #[.pointer (some ⟨w.heap.size, 0, none⟩), .string (bx (codeB tg))] w' fun e w2 => (∃ n, e = .returned (.tuple #[.int .i64 n, .nilIface])) ∧ KO wr (.cells #[.int .i64 tg, .int .i64 nm] 33) w.heap.size w.heap.size (s0 ++ codeB tg) w2 := fun w' hk => HW w' _ _ (by omega) hk
      have HW2 : ∀ (w' : World), KO wr (.cells #[.int .i64 tg, .int .i64 nm] 33) w.heap.size w.heap.size (s0 ++ codeB tg) w' → Calls Tryd.prog 34 #[.pointer (some ⟨w.heap.size, 0, none⟩), .string ((⟨#[32]⟩ : ByteArray) ++ bx (Lib.itoa nm))] w' fun e w2 => (∃ n, e = .returned (.tuple #[.int .i64 n, .nilIface])) ∧ KO wr (.cells #[.int .i64 tg, .int .i64 nm] 33) w.heap.size w.heap.size (s0 ++ codeB tg ++ ([32] ++ Lib.itoa nm)) w2 := fun w' hk => by
        rw [hsp]
        exact HW w' _ _ (by simp only [List.length_append, List.length_cons, List.length_nil]; omega) hk
      have HW3 : ∀ (w' : World) (s : List UInt8), s.length ≤ 9000000 → KO wr (.cells #[.int .i64 tg, .int .i64 nm] 33) w.heap.size w.heap.size s w' → Calls Tryd.prog 34 #[.pointer (some ⟨w.heap.size, 0, none⟩), .string ⟨#[10]⟩] w' fun e w2 => (∃ n, e = .returned (.tuple #[.int .i64 n, .nilIface])) ∧ KO wr (.cells #[.int .i64 tg, .int .i64 nm] 33) w.heap.size w.heap.size (s ++ [10]) w2 := fun w' s hs hk => HW w' s [10] (by simp; omega) hk
      have hend : Hid (s0 ++ codeB tg ++ numT ⟨tg, nm⟩ ++ [10] = (ops.take (k + 1)).flatMap opT) := by
        show _ = _
        rw [hTK, opT]
        simp
      have hnt : Hid (numT ⟨tg, nm⟩ = if hasM tg = true then [32] ++ Lib.itoa nm else []) := rfl
      have q1 : Hid (∀ u : List UInt8, u.length ≤ 21 → (s0 ++ codeB tg ++ u).length ≤ 9000000) := fun u hu => by simp only [List.length_append]; omega
      generalize numT ⟨tg, nm⟩ = un at hend hnt hn2
      generalize htc : bx (codeB tg) = tc at *
      generalize ht1 : bx (Lib.itoa nm) = t1 at *
      have z1 : t1.size ≤ 20 := by rw [← ht1, bx_size]; exact hil
      have q2 : ¬ 9223372036854775807 < 1 + t1.size := by omega
      have hzr := hAr.size
      have hA2 : Hid (∀ w', KO wr (.cells #[.int .i64 tg, .int .i64 nm] 33) w.heap.size w.heap.size ((ops.take (k + 1)).flatMap opT) w' → Bld w' w.heap.size w.heap.size ((ops.take (k + 1)).flatMap opT) ∧ Below w.heap.size w w') := fun w' hk => ⟨hk.t, hAr.trans hk.l⟩
      generalize codeB tg = cb at *
      generalize Lib.itoa nm = nb at *
      clear HW hsp ht1 htc z1 hTK hil hcl hbk hkt hx1 hx2 hkn hBr hs0
      go_upto_region 6 with (go_at_call 34; refine (HW1 _ HK0.out).mono ?_; rintro e w1 ⟨⟨n1, rfl⟩, hK1⟩)
      have HK1 : Hid (KO wr (.cells #[.int .i64 tg, .int .i64 nm] 33) w.heap.size w.heap.size (s0 ++ cb) w1) := hK1
      obtain ⟨⟨y0, y1⟩, _⟩ := HC.out _ _ hK1
      clear hK1 x0 x1 t0 HK0 HW1 hK0
      cases hh : hasM tg
      · rw [hh] at HN hnt
        obtain rfl : un = [] := hnt.out
        clear hh hnt HI HW2
        go_wp2_with (first
          | (go_at_call 35; refine (HN _ _ HK1.out).mono ?_; rintro e w2 ⟨rfl, hK2⟩; have HK2 : Hid (KO wr (.cells #[.int .i64 tg, .int .i64 nm] 33) w.heap.size w.heap.size (s0 ++ cb ++ []) w2) := (by rw [List.append_nil]; exact hK2); clear hK2)
          | (go_at_call 34; refine (HW3 _ _ (q1.out [] (by decide)) HK2.out).mono ?_; rintro e w5 ⟨⟨n5, rfl⟩, hK5⟩))
        go_roundg (ops.length - (k + 1))
        case measure => omega
        case rel =>
          rw [hend.out] at hK5
          exact ⟨k + 1, by omega, by go_num, (hA2.out _ hK5).1, (hA2.out _ hK5).2⟩
      · rw [hh] at HN hnt
        obtain rfl : un = [32] ++ nb := hnt.out
        clear hh hnt
        go_upto_region 8 with (first
          | (go_at_call 35; refine (HN _ _ HK1.out).mono ?_; rintro e w2 ⟨rfl, hK2⟩; obtain ⟨⟨y0, y1⟩, _⟩ := HC.out _ _ hK2; have HK2 : Hid (KO wr (.cells #[.int .i64 tg, .int .i64 nm] 33) w.heap.size w.heap.size (s0 ++ cb) w2) := hK2; clear hK2)
          | (go_at_call 36; refine (HI _ _ HK2.out).mono ?_; rintro e w3 ⟨rfl, hK3⟩; have HK3 : Hid (KO wr (.cells #[.int .i64 tg, .int .i64 nm] 33) w.heap.size w.heap.size (s0 ++ cb) w3) := hK3; clear hK3)
          | (go_at_call 34; refine (HW2 _ HK3.out).mono ?_; rintro e w4 ⟨⟨n4, rfl⟩, hK4⟩; have HK4 : Hid (KO wr (.cells #[.int .i64 tg, .int .i64 nm] 33) w.heap.size w.heap.size (s0 ++ cb ++ ([32] ++ nb)) w4) := hK4; clear hK4))
        go_wp2_with (go_at_call 34; refine (HW3 _ _ (q1.out _ hn2) HK4.out).mono ?_; rintro e w5 ⟨⟨n5, rfl⟩, hK5⟩)
        go_roundg (ops.length - (k + 1))
        case measure => omega
        case rel =>
          rw [hend.out] at hK5
          exact ⟨k + 1, by omega, by go_num, (hA2.out _ hK5).1, (hA2.out _ hK5).2⟩
    · obtain rfl : k = ops.length := by omega
      have hki : ¬ (ops.length : Int) < (ops.length : Int) := by omega
      rw [List.take_length] at hBr
      have hB1 : Hid (Bld wr w.heap.size w.heap.size (ops.flatMap opT)) := hBr
      have hHB : Hid (w.heap.size ≤ wr.heap.size) := hAr.size
      clear hBr
      go_wp2_with (go_at_call 37; refine (bld_text _ _ _ _ hB1.out hHB.out).mono ?_; rintro e w2 ⟨rfl, hb2⟩)
      go_ret
      exact ⟨rfl, hAr.trans hb2⟩
end Go.Proofs.YtaagnifagahgfaaDoor

