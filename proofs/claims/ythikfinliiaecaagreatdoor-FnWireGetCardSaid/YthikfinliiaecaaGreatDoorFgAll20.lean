/-
  The program's putCell.
  Places that were come to: mathematics. No program is named here.
-/
import Derived.Test.YthikfinliiaecaaGreatDoorWiImpl
import Derived.Test.YthikfinliiaecaaGreatDoorFgAll3
namespace Go.Proofs.YthikfinliiaecaaGreatDoor
open Go.RowKit

/-- The table of the words of kinds lies where the program's text lays it. -/
def kindVals : Array Value := #[.string ⟨#[112, 97, 105, 114]⟩, .string ⟨#[99, 111, 110, 115]⟩, .string ⟨#[101, 110, 118]⟩, .string ⟨#[102, 117, 110]⟩, .string ⟨#[114, 101, 99]⟩]
def CTab (w : World) : Prop := ∃ t fr, w.heap[0]? = some (.cells kindVals t fr)
theorem CTab.pos {w : World} (h : CTab w) : 0 < w.heap.size := by
  obtain ⟨t, fr, h⟩ := h
  exact (Array.getElem?_eq_some_iff.1 h).1
theorem CTab.below {w w' : World} {B : Nat} (h : CTab w) (hb : Below B w w') (hB : 0 < B) : CTab w' := by
  obtain ⟨t, fr, h⟩ := h
  exact ⟨t, fr, (hb.block _ hB).trans h⟩
theorem CTab.cell {w : World} (h : CTab w) (j : Nat) : w.cell? ⟨0, j, none⟩ = kindVals[j]? := by
  obtain ⟨t, fr, h⟩ := h
  exact cell_of_row _ _ _ _ _ _ h

set_option maxHeartbeats 400000 in
theorem wi_isFun (c : Ce) (w : World) : Calls Tryz.prog 47 #[c.val] w fun r w' => r = .returned (.bool (decide (c.kind = 4 ∨ c.kind = 5))) ∧ Below w.heap.size w w' := by
  by_cases h4 : c.kind = 4
  · rw [decide_eq_true (Or.inl h4)]
    have b4 : (c.kind == 4) = true := by rw [h4]; rfl
    clear h4
    go_enter Tryz.func47, Tryz.ntmps47
    go_wp2_with fail
    go_ret
    exact ⟨rfl, (Below.refl _ _).alloc (Nat.le_refl _) _⟩
  · have b4 : (c.kind == 4) = false := by simp [h4]
    by_cases h5 : c.kind = 5
    · rw [decide_eq_true (Or.inr h5)]
      have b5 : (c.kind == 5) = true := by rw [h5]; rfl
      clear h4 h5
      go_enter Tryz.func47, Tryz.ntmps47
      go_wp2_with fail
      go_ret
      exact ⟨rfl, (Below.refl _ _).alloc (Nat.le_refl _) _⟩
    · rw [decide_eq_false (by omega)]
      have b5 : (c.kind == 5) = false := by simp [h5]
      clear h4 h5
      go_enter Tryz.func47, Tryz.ntmps47
      go_wp2_with fail
      go_ret
      exact ⟨rfl, (Below.refl _ _).alloc (Nat.le_refl _) _⟩

/-- Behind each writing: the text so far, a box of the caller's own, the frame. -/
structure KC (w : World) (x : Obj) (B b : Nat) (s : List UInt8) (w' : World) : Prop where
  t : Wib w' B b s
  x : w'.heap[w.heap.size]? = some x
  l : Below B w w'
  o : Oth b w w'
theorem KC.next {w w' w2 : World} {x : Obj} {B b : Nat} {s s' : List UInt8} (h : KC w x B b s w') (hx : ∀ c fz, x ≠ .cells c 5 fz) (hne : w.heap.size ≠ b) (hw : Wib w2 B b s') (hb : Below B w' w2) (ho : Oth b w' w2) : KC w x B b s' w2 :=
  ⟨hw, ho _ _ h.x (by simpa using hne) hx, h.l.trans hb, h.o.trans ho⟩
theorem KC.grow {w w' w2 : World} {x : Obj} {B b : Nat} {s : List UInt8} (h : KC w x B b s w') (hB : B ≤ w.heap.size) (hb : Below w'.heap.size w' w2) : KC w x B b s w2 :=
  ⟨wib_keep h.t hb, by rw [hb.block _ (Array.getElem?_eq_some_iff.1 h.x).1]; exact h.x, h.l.trans (hb.mono (Nat.le_trans hB h.l.size)), h.o.trans (oth_below hb)⟩
abbrev boxC (c : Ce) : Obj := .cells #[.int .i64 c.kind, .int .i64 c.num, .int .i64 c.a.tag, .int .i64 c.a.num, .int .i64 c.b.tag, .int .i64 c.b.num] 48
theorem box_six {w : World} {g : Nat} {c : Ce} (h : w.heap[g]? = some (boxC c)) :
    w.cell? ⟨g, 0, none⟩ = some (.int .i64 c.kind) ∧ w.cell? ⟨g, 1, none⟩ = some (.int .i64 c.num) ∧ w.cell? ⟨g, 2, none⟩ = some (.int .i64 c.a.tag) ∧ w.cell? ⟨g, 3, none⟩ = some (.int .i64 c.a.num) ∧ w.cell? ⟨g, 4, none⟩ = some (.int .i64 c.b.tag) ∧ w.cell? ⟨g, 5, none⟩ = some (.int .i64 c.b.num) := by
  have key := fun j => cell_of_row _ _ j _ _ _ h
  exact ⟨key 0, key 1, key 2, key 3, key 4, key 5⟩
theorem sp_app (a : List UInt8) : bx a ++ (⟨#[32]⟩ : ByteArray) = bx (a ++ [32]) := bx_app a [32]

theorem kind_tab {k : Nat} (h : k < 5) : kindVals[k]? = some (.string (bx (kindB ((k : Int) + 1)))) := by
  match k, h with
  | 0, _ | 1, _ | 2, _ | 3, _ | 4, _ => rfl

set_option maxRecDepth 100000 in
set_option maxHeartbeats 8000000 in
theorem impl_putCell (c : Ce) (hc : c.Fine) (w : World) (B b : Nat) (l : List UInt8) (h : Wib w B b l) (hl : l.length ≤ 9000000) (hB : B ≤ w.heap.size) (hT : ∀ w', Below B w w' → PowTab w') (hC : CTab w) (hG : 0 < B) :
    Calls Tryz.prog 31 #[.pointer (some ⟨b, 0, none⟩), c.val] w fun r w' => Wrote w w' B b (l ++ cellB c) r := by
  obtain ⟨hk, hn, hca, hcb⟩ := hc
  have hg := itoa_len c.num hn
  have hwa := word_len hca.1
  have hkl := kind_len c.kind
  have hlt := wib_lt h
  have hne : w.heap.size ≠ b := by omega
  have hx : ∀ cc fz, boxC c ≠ .cells cc 5 fz := by intro cc fz e; cases e
  have hm : (midT c).length ≤ 23 := by unfold midT; split <;> omega
  have hK0 : KC w (boxC c) B b l (w.alloc (boxC c)) := ⟨wib_keep h ((Below.refl _ _).alloc (Nat.le_refl _) _), heap_alloc_new w _, (Below.refl _ _).alloc hB _, oth_below ((Below.refl _ _).alloc (Nat.le_refl _) _)⟩
  have HT : ∀ (w' : World) (s : List UInt8), KC w (boxC c) B b s w' → Calls Tryz.prog 62 #[.int .i64 c.num] w' fun e w2 => e = .returned (.string (bx (Lib.itoa c.num))) ∧ KC w (boxC c) B b s w2 := fun w' s hk => (impl_Itoa c.num hn.1 hn.2 w' (hT w' hk.l)).mono fun e w2 ⟨h1, h2⟩ => ⟨h1, hk.grow hB h2⟩
  have HF : ∀ (w' : World) (s : List UInt8), KC w (boxC c) B b s w' → Calls Tryz.prog 47 #[c.val] w' fun e w2 => e = .returned (.bool (decide (c.kind = 4 ∨ c.kind = 5))) ∧ KC w (boxC c) B b s w2 := fun w' s hk => (wi_isFun c w').mono fun e w2 ⟨h1, h2⟩ => ⟨h1, hk.grow hB h2⟩
  have HW : ∀ (w' : World) (s u : List UInt8), s.length + u.length ≤ 10000000 → KC w (boxC c) B b s w' → Calls Tryz.prog 61 #[.pointer (some ⟨b, 0, none⟩), .string (bx u)] w' fun e w2 => (∃ n, e = .returned (.tuple #[.int .i64 n, .nilIface])) ∧ KC w (boxC c) B b (s ++ u) w2 := fun w' s u hl hk => (wi_write w' B b s u hk.t (by omega) (Nat.le_trans hB hk.l.size)).mono fun e w2 ⟨h1, h2, h3, h4⟩ => ⟨h1, hk.next hx hne h2 h3 h4⟩
  have HP : ∀ (w' : World) (s : List UInt8) (d : Wd), (In64 d.num ∧ (d.tag = 2 → d.num = 0 ∨ d.num = 1)) → s.length ≤ 10000000 → KC w (boxC c) B b s w' → Calls Tryz.prog 29 #[.pointer (some ⟨b, 0, none⟩), .agg #[.int .i64 d.tag, .int .i64 d.num]] w' fun e w2 => e = .returned (.tuple #[]) ∧ KC w (boxC c) B b (s ++ wordT d) w2 := fun w' s d hd hl hk => (impl_putWord d hd w' B b s hk.t hl (Nat.le_trans hB hk.l.size) (hT w' hk.l)).mono fun e w2 ⟨h1, h2, h3, h4⟩ => ⟨h1, hk.next hx hne h2 h3 h4⟩
  obtain ⟨kn, hkn⟩ : ∃ kn : Nat, c.kind = (kn : Int) + 1 := ⟨(c.kind - 1).toNat, by omega⟩
  have hk5 : kn < 5 := by omega
  have hkt := kind_tab hk5
  rw [← hkn] at hkt
  have HC : Hid (∀ (w' : World) (s : List UInt8), KC w (boxC c) B b s w' → w'.cell? ⟨w.heap.size, 0, none⟩ = some (.int .i64 c.kind) ∧ w'.cell? ⟨0, kn, none⟩ = some (.string (bx (kindB c.kind)))) := fun w' s hk => ⟨(box_six hk.x).1, by rw [(hC.below hk.l hG).cell]; exact hkt⟩
  have HX : Hid (∀ (w' : World) (s : List UInt8), KC w (boxC c) B b s w' → w'.cell? ⟨w.heap.size, 0, none⟩ = some (.int .i64 c.kind) ∧ w'.cell? ⟨w.heap.size, 1, none⟩ = some (.int .i64 c.num) ∧ w'.cell? ⟨w.heap.size, 2, none⟩ = some (.int .i64 c.a.tag) ∧ w'.cell? ⟨w.heap.size, 3, none⟩ = some (.int .i64 c.a.num) ∧ w'.cell? ⟨w.heap.size, 4, none⟩ = some (.int .i64 c.b.tag) ∧ w'.cell? ⟨w.heap.size, 5, none⟩ = some (.int .i64 c.b.num)) := fun w' s hk => box_six hk.x
  have HW1 : ∀ w', KC w (boxC c) B b l w' → Calls Tryz.prog 61 #[.pointer (some ⟨b, 0, none⟩), .string (bx (kindB c.kind) ++ ⟨#[32]⟩)] w' fun e w2 => (∃ n, e = .returned (.tuple #[.int .i64 n, .nilIface])) ∧ KC w (boxC c) B b (l ++ (kindB c.kind ++ [32])) w2 := fun w' hk => by
    rw [sp_app]
    exact HW w' l _ (by simp; omega) hk
  have hfin : l ++ (kindB c.kind ++ [32]) ++ midT c ++ [32] ++ wordT c.b = l ++ cellB c := by simp [cellB]
  have l1 : (l ++ (kindB c.kind ++ [32])).length ≤ 9000010 := by simp; omega
  have l2 : (l ++ (kindB c.kind ++ [32]) ++ midT c).length ≤ 9000040 := by simp; omega
  have l3 : (l ++ (kindB c.kind ++ [32]) ++ midT c ++ [32]).length ≤ 9000050 := by simp; omega
  have HW2 : ∀ w', KC w (boxC c) B b (l ++ (kindB c.kind ++ [32]) ++ midT c) w' → Calls Tryz.prog 61 #[.pointer (some ⟨b, 0, none⟩), .string ⟨#[32]⟩] w' fun e w2 => (∃ n, e = .returned (.tuple #[.int .i64 n, .nilIface])) ∧ KC w (boxC c) B b (l ++ (kindB c.kind ++ [32]) ++ midT c ++ [32]) w2 := fun w' hk => HW w' _ [32] (by simp only [List.length_cons, List.length_nil]; omega) hk
  have HP2 : ∀ w', KC w (boxC c) B b (l ++ (kindB c.kind ++ [32]) ++ midT c ++ [32]) w' → _ := fun w' hk => HP w' _ c.b hcb (by omega) hk
  rw [hfin] at HP2
  have hd0 : KC w (boxC c) B b l (w.alloc (boxC c)).drew := hK0.grow hB ((Below.refl _ _).drew)
  have kvs : (bx (kindB c.kind)).size ≤ 4 := by rw [bx_size]; exact hkl
  have hfun : c.kind = 4 ∨ c.kind = 5 → midT c = Lib.itoa c.num := fun h => by unfold midT; rw [if_pos h]
  have hnot : ¬ (c.kind = 4 ∨ c.kind = 5) → midT c = wordT c.a := fun h => by unfold midT; rw [if_neg h]
  have H1 : Hid (∀ w' s, KC w (boxC c) B b s w' → s.length ≤ 9999900 → c.kind = 4 ∨ c.kind = 5 → Calls Tryz.prog 61 #[.pointer (some ⟨b, 0, none⟩), .string (bx (Lib.itoa c.num))] w' fun e w2 => (∃ n, e = .returned (.tuple #[.int .i64 n, .nilIface])) ∧ KC w (boxC c) B b (s ++ midT c) w2) := fun w' s hk hs hf => by
    rw [hfun hf]
    exact HW w' s _ (by omega) hk
  have H2 : Hid (∀ w' s, KC w (boxC c) B b s w' → s.length ≤ 9999900 → ¬ (c.kind = 4 ∨ c.kind = 5) → Calls Tryz.prog 29 #[.pointer (some ⟨b, 0, none⟩), .agg #[.int .i64 c.a.tag, .int .i64 c.a.num]] w' fun e w2 => e = .returned (.tuple #[]) ∧ KC w (boxC c) B b (s ++ midT c) w2) := fun w' s hk hs hf => by
    rw [hnot hf]
    exact HP w' s c.a hca (by omega) hk
  have wr1 : IntKind.i64.wrap (c.kind - 1) = (kn : Int) := by rw [hkn, IntKind.wrap_i64]; omega
  have q1 : ¬ 9223372036854775807 < (bx (kindB c.kind)).size + 1 := by omega
  have hki : (kn : Int) < 5 := by omega
  have HZ : Hid (∀ w', KC w (boxC c) B b (l ++ cellB c) w' → Wrote w w' B b (l ++ cellB c) (.returned (.tuple #[]))) := fun w' hk => ⟨rfl, hk.t, hk.l, hk.o⟩
  generalize bx (kindB c.kind) = kv at HC HW1 q1
  generalize cellB c = fin at *
  generalize l ++ (kindB c.kind ++ [32]) ++ midT c ++ [32] = s3 at *
  generalize hs2 : l ++ (kindB c.kind ++ [32]) ++ midT c = s2 at *
  generalize l ++ (kindB c.kind ++ [32]) = s1 at *
  clear hkt hfun hnot hkl kvs hm hg hwa hC hT hn hca hcb hk5 hfin l2 l3 HW HP hK0 h
  by_cases hf : c.kind = 4 ∨ c.kind = 5
  · have hdf : decide (c.kind = 4 ∨ c.kind = 5) = true := decide_eq_true hf
    have H3 := fun w' hk => H1.out w' s1 hk (by omega) hf
    rw [hs2] at H3
    rw [hdf] at HF
    clear H1 H2 hf hdf hkn hs2
    generalize bx (Lib.itoa c.num) = t1 at H3 HT
    go_enter Tryz.func31, Tryz.ntmps31
    go_wp2_with fail
    go_region_held3 (fun w' => w'.cell? ⟨w.heap.size, 0, none⟩ = some (.int .i64 c.kind) ∧ w'.cell? ⟨0, kn, none⟩ = some (.string kv))
      (first | exact HC.out _ _ hk1 | exact HC.out _ _ hd0)
      (first | (go_at_call 61; refine (HW1 _ hd0).mono ?_; rintro e w1 ⟨⟨n1, rfl⟩, hk1⟩))
    obtain ⟨x0, x1, x2, x3, x4, x5⟩ := HX.out _ _ hk1
    go_wp2_with (first | (go_at_call 47; refine (HF _ _ hk1).mono ?_; rintro e w2 ⟨rfl, hk2⟩))
    clear x0 x1 x2 x3 x4 x5
    have hk2d : KC w (boxC c) B b s1 w2.drew := hk2.grow hB ((Below.refl _ _).drew)
    go_region_held3 (fun w' => w'.cell? ⟨w.heap.size, 1, none⟩ = some (.int .i64 c.num))
      (first | exact (HX.out _ _ hk4).2.1 | exact (HX.out _ _ hk3).2.1 | exact (HX.out _ _ hk2d).2.1)
      (first
        | (go_at_call 62; refine (HT _ _ hk2d).mono ?_; rintro e w3 ⟨rfl, hk3⟩)
        | (go_at_call 61; refine (H3 _ hk3).mono ?_; rintro e w4 ⟨⟨n4, rfl⟩, hk4⟩))
    obtain ⟨z0, z1, z2, z3, z4, z5⟩ := HX.out _ _ hk4
    go_wp2_with (first
      | (go_at_call 61; refine (HW2 _ hk4).mono ?_; rintro e w5 ⟨⟨n5, rfl⟩, hk5⟩; (obtain ⟨u0, u1, u2, u3, u4, u5⟩ := HX.out _ _ hk5))
      | (go_at_call 29; refine (HP2 _ hk5).mono ?_; rintro e w6 ⟨rfl, hk6⟩))
    go_end0
    exact HZ.out _ hk6
  · have hdf : decide (c.kind = 4 ∨ c.kind = 5) = false := decide_eq_false hf
    have H3 := fun w' hk => H2.out w' s1 hk (by omega) hf
    rw [hs2] at H3
    rw [hdf] at HF
    clear H1 H2 hf hdf hkn hs2 HT
    go_enter Tryz.func31, Tryz.ntmps31
    go_wp2_with fail
    go_region_held3 (fun w' => w'.cell? ⟨w.heap.size, 0, none⟩ = some (.int .i64 c.kind) ∧ w'.cell? ⟨0, kn, none⟩ = some (.string kv))
      (first | exact HC.out _ _ hk1 | exact HC.out _ _ hd0)
      (first | (go_at_call 61; refine (HW1 _ hd0).mono ?_; rintro e w1 ⟨⟨n1, rfl⟩, hk1⟩))
    obtain ⟨x0, x1, x2, x3, x4, x5⟩ := HX.out _ _ hk1
    go_wp2_with (first
      | (go_at_call 47; refine (HF _ _ hk1).mono ?_; rintro e w2 ⟨rfl, hk2⟩; clear x0 x1 x2 x3 x4 x5; (obtain ⟨y0, y1, y2, y3, y4, y5⟩ := HX.out _ _ hk2))
      | (go_at_call_of 29 c.a.tag; refine (H3 _ hk2).mono ?_; rintro e w4 ⟨rfl, hk4⟩; clear y0 y1 y2 y3 y4 y5; (obtain ⟨z0, z1, z2, z3, z4, z5⟩ := HX.out _ _ hk4))
      | (go_at_call 61; refine (HW2 _ hk4).mono ?_; rintro e w5 ⟨⟨n5, rfl⟩, hk5⟩; (obtain ⟨u0, u1, u2, u3, u4, u5⟩ := HX.out _ _ hk5))
      | (go_at_call_of 29 c.b.tag; refine (HP2 _ hk5).mono ?_; rintro e w6 ⟨rfl, hk6⟩))
    go_end0
    exact HZ.out _ hk6
end Go.Proofs.YthikfinliiaecaaGreatDoor

namespace Go.Proofs.YthikfinliiaecaaGreatDoor

/-- Whose places are these that were copied and are not gone through yet? -/
structure RelT (fr : List Ce) (i : Nat) (s : St) (todo : List Nat) : Prop where
  len : todo.length = s.to.length
  at' : ∀ j (hj : j < todo.length), i ≤ j → todo[j] < fr.length ∧ s.to[j]? = fr[todo[j]]?
/-- Truths as values. -/
def boolsV (l : List Bool) : List Value := l.map (.bool ·)
def natsV (l : List Nat) : List Value := l.map fun (n : Nat) => .int .i64 (n : Int)
/-- Was a cell come to? -/
def inM (s : St) : List Bool := s.mv.map fun x => decide (0 ≤ x)
theorem inM_length (s : St) : (inM s).length = s.mv.length := by simp [inM]
theorem inM_get (s : St) (p : Nat) (h : p < s.mv.length) (h' : p < (inM s).length) : (inM s)[p] = decide (0 ≤ s.mv[p]) := by simp [inM]
theorem boolsV_length (l : List Bool) : (boolsV l).length = l.length := by simp [boolsV]
theorem natsV_length (l : List Nat) : (natsV l).length = l.length := by simp [natsV]
theorem come_rel {fr : List Ce} {i p : Nat} {s : St} {todo : List Nat} (h : RelT fr i s todo) (hp : p < fr.length) (_ : p < s.mv.length) :
    RelT fr i ⟨s.to ++ [fr[p]], s.mv.set p s.to.length⟩ (todo ++ [p]) ∧ inM ⟨s.to ++ [fr[p]], s.mv.set p s.to.length⟩ = (inM s).set p true := by
  refine ⟨⟨by simp [h.len], fun j hj hij => ?_⟩, ?_⟩
  · by_cases hl : j < todo.length
    · rw [List.getElem_append_left hl]
      have := h.at' j hl hij
      refine ⟨this.1, ?_⟩
      rw [List.getElem?_append_left (by rw [← h.len]; exact hl)]
      exact this.2
    · have hj' : j = todo.length := by simp at hj; omega
      subst hj'
      simp only [List.getElem_append_right (Nat.le_refl _), Nat.sub_self, List.getElem_cons_zero]
      refine ⟨hp, ?_⟩
      rw [h.len, List.getElem?_append_right (Nat.le_refl _), Nat.sub_self, List.getElem?_eq_getElem hp]
      rfl
  · have e : decide ((0 : Int) ≤ (s.to.length : Int)) = true := decide_eq_true (by omega)
    rw [inM, inM, List.map_set, e]
theorem step_rel {fr : List Ce} {i : Nat} {s : St} {todo : List Nat} {c : Ce} (h : RelT fr i s todo) : RelT fr (i + 1) ⟨s.to.set i c, s.mv⟩ todo := by
  refine ⟨by simp [h.len], fun j hj hij => ?_⟩
  have := h.at' j hj (by omega)
  refine ⟨this.1, ?_⟩
  show (s.to.set i c)[j]? = _
  rw [List.getElem?_set_ne (by omega)]
  exact this.2
/-- The places, below k, of what is true. -/
def takenTo (l : List Bool) (k : Nat) : List Nat := (List.range k).filter fun i => l.getD i false
theorem takenTo_zero (l : List Bool) : takenTo l 0 = [] := rfl
theorem takenTo_next (l : List Bool) (k : Nat) (h : k < l.length) : takenTo l (k + 1) = takenTo l k ++ (if l[k] = true then [k] else []) := by
  have hg : l.getD k false = l[k] := by rw [List.getD_eq_getElem?_getD, List.getElem?_eq_getElem h]; rfl
  rw [takenTo, List.range_succ, List.filter_append, takenTo]
  congr 1
  rw [List.filter_cons, hg]
  cases l[k] <;> rfl
theorem takenTo_le (l : List Bool) (k : Nat) : (takenTo l k).length ≤ k := by
  have := List.length_filter_le (fun i => l.getD i false) (List.range k)
  simpa [takenTo] using this
def takenM (l : List Bool) : List Nat := takenTo l l.length
end Go.Proofs.YthikfinliiaecaaGreatDoor

