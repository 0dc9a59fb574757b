/-
  The program's hasItsOwn at every kind, the census, ExprOk.
  The law's own toExpr, toExprS: a copy in new memory.
  The law's own eqExpr, eqExprS: an expression is the same as its copy.
  Boxes: an expression that was laid in a block of its own, in every later world.
-/
import Derived.Test.YtkjppjhmejkidaaDoorNtAll3
import Derived.Test.YtkjppjhmejkidaaDoorExOwnB
import Derived.Test.YtkjppjhmejkidaaDoorExOwnC
import Derived.Test.YtkjppjhmejkidaaDoorExOwnD
import Derived.Test.YtkjppjhmejkidaaDoorNtAll2
import Derived.Test.YtkjppjhmejkidaaDoorRows
import Derived.Test.YtkjppjhmejkidaaDoorNtAll0
import Derived.WalkKit
import Derived.WalkSpells
import Derived.WalkLawsBesides
import Derived.Deep.RegionWith
namespace Go.Proofs.YtkjppjhmejkidaaDoor
open Go.RowKit

theorem own_bad (k : Int) (n : Nat) (a b : ByteArray) (u : Int) (h : k < 1 ∨ 21 < k) : ownC k n a b u = false := by
  apply own_kids
  rcases h with h | h
  · rw [kidsN_low k h]; omega
  · rw [kidsN_high k h]; omega

theorem impl_hasItsOwn (k : Int) (a b : ByteArray) (u : Int) (al : Option Addr) (n cap : Nat) (w : World) (hn : n ≤ maxLen) (ha : a.size ≤ maxLen) (hb : b.size ≤ maxLen) (hT : Tab w) :
    Calls Tryd.prog 43 #[.agg #[.int .i64 k, .string a, .string b, .int .i64 u, .slice al n cap]] w fun r w' => r = .returned (.bool (ownC k n a b u)) ∧ Below w.heap.size w w' := by
  have hn' : n ≤ 9223372036854775807 := by unfold maxLen at hn; omega
  rcases kind_cases k with (rfl | rfl | rfl | rfl | rfl | rfl | rfl | rfl | rfl | rfl | rfl | rfl | rfl | rfl | rfl | rfl | rfl | rfl | rfl | rfl | rfl) | h
  case inr => rw [own_bad k n a b u h]; exact own_none k a b u _ w h
  · exact own_1 a b u al n cap w hn' ha hb hT
  · exact own_2 a b u al n cap w hn' ha hb hT
  · exact own_3 a b u al n cap w hn' ha hb hT
  · exact own_4 a b u al n cap w hn' ha hb hT
  · exact own_5 a b u al n cap w hn' ha hb hT
  · exact own_6 a b u al n cap w hn' ha hb hT
  · exact own_7 a b u al n cap w hn' ha hb hT
  · exact own_8 a b u al n cap w hn' ha hb hT
  · exact own_9 a b u al n cap w hn' ha hb hT
  · exact own_10 a b u al n cap w hn' ha hb hT
  · exact own_11 a b u al n cap w hn' ha hb hT
  · exact own_12 a b u al n cap w hn' ha hb hT
  · exact own_13 a b u al n cap w hn' ha hb hT
  · exact own_14 a b u al n cap w hn' ha hb hT
  · exact own_15 a b u al n cap w hn' ha hb hT
  · exact own_16 a b u al n cap w hn' ha hb hT
  · exact own_17 a b u al n cap w hn' ha hb hT
  · exact own_18 a b u al n cap w hn' ha hb hT
  · exact own_19 a b u al n cap w hn' ha hb hT
  · exact own_20 a b u al n cap w hn' ha hb hT
  · exact own_21 a b u al n cap w hn' ha hb hT

/-- A count of parts never goes down. -/
theorem sizeAll_ge (d : Int) : ∀ (es : List Ex) (m : Int), 1 ≤ m → m ≤ 60 → m ≤ sizeAll es d m
  | [], m, _, _ => by rw [sizeAll]; omega
  | e :: es, m, h1, h2 => by
    rw [sizeAll]
    have he := sizeM_bd e d
    split
    · omega
    · have := sizeAll_ge d es (m + sizeM e d) (by omega) (by omega)
      omega

theorem takes_full (e : Ex) (d : Int) : 60 < 60 + sizeM e d := by have := sizeM_bd e d; omega
theorem takes_deep (e : Ex) (d : Int) (h : 14 < d) : sizeM e d = 61 := by rw [sizeM_eq, if_pos (Or.inl h)]
theorem takes_bad (e : Ex) (d : Int) (h : ownC e.kind e.kids.length e.name e.tail e.num = false) : sizeM e d = 61 := by
  rw [sizeM_eq, if_pos]
  by_cases hk : (e.kids.length : Int) = kidsN e.kind
  · right; right
    simpa [ownC, hk] using h
  · right; left; exact hk
theorem takes_good (e : Ex) (d : Int) (hd : ¬ 14 < d) (h : ownC e.kind e.kids.length e.name e.tail e.num = true) : sizeM e d = sizeAll (e.kids.drop 0) (d + 1) 1 := by
  simp [ownC] at h
  rw [sizeM_eq, if_neg (by rintro (h1 | h1 | h1); exact hd h1; exact h1 h.1; rw [h.2] at h1; cases h1)]; rfl
/-- Where a part is one too many the whole is too much. -/
theorem takes_over (es : List Ex) (d m n : Int) (k : Nat) (hlt : k < es.length) (hn : 0 ≤ n) (hm1 : 1 ≤ m) (hm2 : m ≤ 60) (h : 60 < n + m + sizeM es[k] d) : 60 < n + sizeAll (es.drop k) d m := by
  rw [sizeAll_drop es d m k hlt]
  have hb := sizeM_bd es[k] d
  split
  · omega
  · have := sizeAll_ge d (es.drop (k + 1)) (m + sizeM es[k] d) (by omega) (by omega)
    omega

/-- The count stands at x in block bc, and may be written; below bc all is as it was. -/
structure Counts (w w' : World) (bc : Nat) (x : Int) : Prop where
  cell : w'.cell? ⟨bc, 0, none⟩ = some (.int .i64 x)
  frozen : w'.frozen? ⟨bc, 0, none⟩ = false
  below : Below bc w w'
theorem Counts.start {w : World} {bc : Nat} {n x : Int} {o : Obj} (hcell : w.cell? ⟨bc, 0, none⟩ = some (.int .i64 n)) (hfro : w.frozen? ⟨bc, 0, none⟩ = false) (hbc : bc < w.heap.size) : Counts w ((w.setCell ⟨bc, 0, none⟩ (.int .i64 x)).alloc o) bc x := by
  have hs : (w.setCell ⟨bc, 0, none⟩ (.int .i64 x)).heap.size = w.heap.size := by simp [World.setCell]
  refine ⟨?_, ?_, ((Below.refl bc w).setCell (p := ⟨bc, 0, none⟩) (Nat.le_refl _) _).alloc (by omega) o⟩
  · rw [World.cell?_alloc_lt _ _ _ (by rw [hs]; exact hbc), World.cell?_setCell_same _ _ _ hcell]
  · rw [World.frozen?_alloc_past _ _ _ (by rw [hs]; exact hbc), World.frozen?_setCell]; exact hfro
theorem Counts.later {w w1 w2 : World} {bc : Nat} {x : Int} (h : Counts w w1 bc x) (hb : Below w1.heap.size w1 w2) (hbc : bc < w1.heap.size) : Counts w w2 bc x :=
  ⟨(hb.cell (p := ⟨bc, 0, none⟩) hbc).trans h.cell, (hb.frozen (p := ⟨bc, 0, none⟩) hbc).trans h.frozen, h.below.trans (hb.mono (Nat.le_of_lt hbc))⟩
/-- How the census ends: it says whether there is room for all of an expression, and if so counts it. -/
def Taken (w w' : World) (bc : Nat) (e : Ex) (n d : Int) (r : Ending) : Prop :=
  ∃ x : Int, r = .returned (.bool (decide (n + sizeM e d ≤ 60))) ∧ (n + sizeM e d ≤ 60 → x = n + sizeM e d) ∧ Counts w w' bc x
theorem Counts.said {w w' : World} {bc : Nat} {x : Int} {e : Ex} {n d : Int} {r : Ending} (h : Counts w w' bc x) (hr : r = .returned (.bool (decide (n + sizeM e d ≤ 60)))) (hx : n + sizeM e d ≤ 60 → x = n + sizeM e d) : Taken w w' bc e n d r :=
  ⟨x, hr, hx, h⟩
theorem dec_false {n m : Int} (h : m < n) : Ending.returned (.bool false) = .returned (.bool (decide (n ≤ m))) := by simp; omega

/-- What the census does with one expression. -/
def TakesOf (e : Ex) : Prop := ∀ (w : World) (bc : Nat) (s : Value) (n around : Int), Lies w (· < bc) e.kids s → w.cell? ⟨bc, 0, none⟩ = some (.int .i64 n) → w.frozen? ⟨bc, 0, none⟩ = false → Tab w → 0 < bc → bc < w.heap.size → 0 ≤ n → n ≤ 60 → 0 ≤ around → around ≤ 100 →
  Calls Tryd.prog 29 #[.pointer (some ⟨bc, 0, none⟩), e.val s, .int .i64 around] w fun r w' => Taken w w' bc e n (around + 1) r

theorem takes_no {w w3 : World} {bc : Nat} {n' n m d : Int} {e : Ex} {k : Nat} (h3 : Counts w w3 bc n') (HD : Hid (sizeM e d = sizeAll (e.kids.drop k) (d + 1) m)) (hlt : k < e.kids.length) (hn : 0 ≤ n) (hm1 : 1 ≤ m) (hm2 : m ≤ 60) (h : 60 < n + m + sizeM e.kids[k] (d + 1)) :
    Taken w w3 bc e n d (.returned (.bool false)) := by
  have hf : 60 < n + sizeM e d := by rw [HD.out]; exact takes_over e.kids (d + 1) m n k hlt hn hm1 hm2 h
  exact h3.said (dec_false hf) (fun h => by omega)
theorem takes_on {w w3 : World} {bc : Nat} {n' n m x : Int} (h3 : Counts w w3 bc n') (h : n' = n + m + x) : Counts w w3 bc (n + (m + x)) := by
  rw [show n + (m + x) = n' by omega]; exact h3

set_option maxHeartbeats 600000 in
theorem takes_walk (e : Ex) (hf : e.Fit) (ih : ∀ x ∈ e.kids, TakesOf x) : TakesOf e := by
  intro w bc s n around hv hcell hfro hT hbc0 hbc hn0 hn1 ha0 ha1
  obtain ⟨_, hn, ht, hk, hx⟩ := hf
  have hk2 := hk
  unfold maxLen at hk2
  obtain ⟨a, cap, rfl⟩ := hv.slice
  have HS := fun (x : Int) (o : Obj) => Counts.start (x := x) (o := o) hcell hfro hbc
  by_cases hfull : 60 < n + 1
  · obtain rfl : n = 60 := by omega
    have HF := takes_full e (around + 1)
    go_enter Tryd.func29, Tryd.ntmps29
    go_wp2_with fail
    go_ret
    exact (HS _ _).said (dec_false HF) (fun h => by omega)
  by_cases hdeep : 13 < around
  · have HF : 60 < n + sizeM e (around + 1) := by rw [takes_deep e (around + 1) (by omega)]; omega
    have HH : Hid (60 < n + sizeM e (around + 1)) := HF
    clear HF
    go_enter Tryd.func29, Tryd.ntmps29
    go_wp2_with fail
    go_ret
    exact (HS _ _).said (dec_false HH.out) (fun h => by have := HH.out; omega)
  have hsz : ∀ (x : Value) (o : Obj), ((w.setCell ⟨bc, 0, none⟩ x).alloc o).heap.size = w.heap.size + 1 := fun x o => by simp [World.setCell]
  have hT1 : ∀ (x : Int) (o : Obj), Tab ((w.setCell ⟨bc, 0, none⟩ (.int .i64 x)).alloc o) := fun x o => hT.below (HS x o).below hbc0
  have hown := impl_hasItsOwn e.kind e.name e.tail e.num a e.kids.length cap
  cases how : ownC e.kind e.kids.length e.name e.tail e.num
  · have HF : 60 < n + sizeM e (around + 1) := by rw [takes_bad e (around + 1) how]; omega
    have HH : Hid (60 < n + sizeM e (around + 1)) := HF
    clear HF
    go_enter Tryd.func29, Tryd.ntmps29
    go_wp2_with (go_at_call 43; refine (hown _ hk hn ht (hT1 _ _)).mono ?_; rintro r w2 ⟨rfl, hb2⟩; rw [how])
    go_ret
    exact ((HS _ _).later hb2 (by rw [hsz]; omega)).said (dec_false HH.out) (fun h => by have := HH.out; omega)
  · have HE : Hid (sizeM e (around + 1) = sizeAll (e.kids.drop 0) (around + 1 + 1) 1) := takes_good e (around + 1) (by omega) how
    go_enter Tryd.func29, Tryd.ntmps29
    go_wp2_with (go_at_call 43; refine (hown _ hk hn ht (hT1 _ _)).mono ?_; rintro r w2 ⟨rfl, hb2⟩; rw [how]; obtain ⟨hc, hff⟩ := bcell hb2)
    go_loopw [33] (fun i wr => ∃ (k : Nat) (m : Int), k ≤ e.kids.length ∧ i = .int .i64 k ∧ 1 ≤ m ∧ n + m ≤ 60 ∧ Hid (sizeM e (around + 1) = sizeAll (e.kids.drop k) (around + 1 + 1) m) ∧ Counts w wr bc (n + m) ∧ bc < wr.heap.size) (fun i _ => e.kids.length - (intOf i).toNat)
    case atStart => exact ⟨0, 1, by omega, rfl, by omega, by omega, HE, (HS _ _).later hb2 (by rw [hsz]; omega), by have := hb2.size; rw [hsz] at this; omega⟩
    case round =>
      obtain ⟨k, m, hkl, rfl, hm1, hm2, HD, hC, hbr⟩ := hrel
      clear hb2 hc hff
      by_cases hlt : k < e.kids.length
      · obtain ⟨b, off, cap', s, hS, hsl, hr, hl⟩ := hv.at (List.getElem?_eq_getElem hlt)
        obtain ⟨rfl, rfl⟩ : a = some ⟨b, off, none⟩ ∧ cap = cap' := by simpa using hsl
        obtain ⟨c0, c1, c2, c3, c4⟩ := Ex.five (rangeAt_same (hC.below.block b hS) hr)
        obtain ⟨a2, cap2, rfl⟩ := hl.slice
        have hC' : ∀ o, Counts w (wr.alloc o) bc (n + m) := fun o => hC.later ((Below.refl _ _).alloc (Nat.le_refl _) o) hbr
        have hl' : ∀ o, Lies (wr.alloc o) (· < bc) e.kids[k].kids (.slice a2 e.kids[k].kids.length cap2) := fun o => hl.keep (hC' o).below (Nat.le_refl _)
        have hT' : ∀ o, Tab (wr.alloc o) := fun o => hT.below (hC' o).below hbc0
        have hbr' : ∀ o, bc < (wr.alloc o).heap.size := fun o => by simp; omega
        have hsb := sizeM_bd e.kids[k] (around + 1 + 1)
        have hsd := sizeAll_drop e.kids (around + 1 + 1) m k hlt
        have HX : Hid (sizeAll (e.kids.drop k) (around + 1 + 1) m = if 60 < m + sizeM e.kids[k] (around + 1 + 1) then 61 else sizeAll (e.kids.drop (k + 1)) (around + 1 + 1) (m + sizeM e.kids[k] (around + 1 + 1))) := hsd
        clear hr hl hsl hsd
        go_wp2_with (go_at_call 29; refine (ih e.kids[k] (List.getElem_mem hlt) _ bc _ (n + m) (around + 1) (hl' _) (hC' _).cell (hC' _).frozen (hT' _) hbc0 (hbr' _) (by omega) (by omega) (by omega) (by omega)).mono ?_; rintro r w3 ⟨n', rfl, hn', hC3⟩; have HN : Hid (n + m + sizeM e.kids[k] (around + 1 + 1) ≤ 60 → n' = n + m + sizeM e.kids[k] (around + 1 + 1)) := hn'; clear hn'; have HC3 : Counts w w3 bc n' := ⟨hC3.cell, hC3.frozen, (hC' _).below.trans hC3.below⟩; have hz3 : bc < w3.heap.size := Nat.lt_of_lt_of_le (hbr' _) hC3.below.size; clear hC3)
        · have h : 60 < n + m + sizeM e.kids[k] (around + 1 + 1) := by simpa using ‹(!decide (n + m + sizeM e.kids[k] (around + 1 + 1) ≤ 60)) = true›
          go_ret
          exact takes_no HC3 HD hlt hn0 hm1 (by omega) h
        · have h : n + m + sizeM e.kids[k] (around + 1 + 1) ≤ 60 := by simpa using ‹(!decide (n + m + sizeM e.kids[k] (around + 1 + 1) ≤ 60)) = false›
          go_roundw
          case rel => exact ⟨k + 1, m + sizeM e.kids[k] (around + 1 + 1), by omega, by go_num, by omega, by omega, by show _ = _; rw [HD.out, HX.out, if_neg (by omega)], takes_on HC3 (HN.out h), hz3⟩
          case measure => simp [intOf]; omega
      · go_wp2_with fail
        go_ret
        exact hC.said (by rw [HD.out, List.drop_eq_nil_of_le (by omega), sizeAll]; simp; omega) (fun _ => by rw [HD.out, List.drop_eq_nil_of_le (by omega), sizeAll])

theorem impl_takes (e : Ex) : e.Fit → TakesOf e := by
  induction e using Ex.ind with
  | h e ih =>
    intro hf
    have hx : ∀ x ∈ e.kids, x.Fit := by cases hf; assumption
    exact takes_walk e hf fun x hm => ih x hm (hx x hm)

set_option maxHeartbeats 400000 in
theorem impl_ExprOk (e : Ex) (hf : e.Fit) (w : World) (s : Value) (hv : Lies w (· < w.heap.size) e.kids s) (hT : Tab w) :
    Calls Tryd.prog 16 #[e.val s] w fun r w' => r = .returned (.bool (decide (sizeM e 1 ≤ 60))) ∧ Below w.heap.size w w' := by
  have hb : ∀ o1 o2, Below w.heap.size w ((w.alloc o1).alloc o2) := below2 w
  have hv' : ∀ o1 o2, Lies ((w.alloc o1).alloc o2) (· < w.heap.size + 1) e.kids s := fun o1 o2 => hv.keep (hb o1 o2) (by omega)
  have hT' : ∀ o1 o2, Tab ((w.alloc o1).alloc o2) := fun o1 o2 => hT.below (hb o1 o2) hT.pos
  have hp := hT.pos
  have hsz : ∀ o1 o2, w.heap.size + 1 < ((w.alloc o1).alloc o2).heap.size := fun o1 o2 => by simp
  go_enter Tryd.func16, Tryd.ntmps16
  go_wp2_with (go_at_call 29; refine (impl_takes e hf _ (w.heap.size + 1) _ 0 0 (hv' _ _) (by simp) (by simp) (hT' _ _) (by omega) (hsz _ _) (by omega) (by omega) (by omega) (by omega)).mono ?_; rintro r w3 ⟨n', rfl, _, hC3⟩)
  go_ret
  exact ⟨rfl, (hb _ _).trans (hC3.below.mono (by omega))⟩
end Go.Proofs.YtkjppjhmejkidaaDoor

namespace Go.Proofs.YtkjppjhmejkidaaDoor
open Go.RowKit

theorem heap_setCells (b : Nat) : ∀ (vs : List Value) (o : Nat) (w : World) (k : Nat), k ≠ b → (w.setCells b o vs).heap[k]? = w.heap[k]?
  | [], _, _, _, _ => rfl
  | v :: r, o, w, k, h => by
    rw [World.setCells, heap_setCells b r (o + 1) _ k h]
    exact Below.heap_setCell _ _ _ _ h
theorem size_setCells (b : Nat) : ∀ (vs : List Value) (o : Nat) (w : World), (w.setCells b o vs).heap.size = w.heap.size
  | [], _, _ => rfl
  | v :: r, o, w => by
    rw [World.setCells, size_setCells b r (o + 1)]
    simp [World.setCell]
theorem Below.setCells {B b : Nat} {a : World} (hB : B ≤ b) : ∀ (vs : List Value) (o : Nat) (w : World), Below B a w → Below B a (w.setCells b o vs)
  | [], _, _, h => h
  | v :: r, o, w, h => by
    rw [World.setCells]
    exact Below.setCells hB r (o + 1) _ (h.setCell (p := ⟨b, o, none⟩) hB v)

theorem there_made (w : World) (z : Array Value) (n : Nat) (t : TypeId) : (w.alloc (.cells (madeCells z n) t)).there w.heap.size 0 n := fun j hj => by
  have hb : (w.alloc (.cells (madeCells z n) t)).heap[w.heap.size]? = some (.cells (madeCells z n) t) := heap_alloc_new _ _
  refine ⟨?_, ?_⟩
  · rw [cell_of_row _ _ _ _ _ _ hb]; simp [size_madeCells, hj]
  · unfold World.frozen?
    rw [hb]
    simp
theorem there_part {w : World} {b o n : Nat} (h : w.there b 0 n) (hn : o + 5 ≤ n) : w.there b o 5 := fun j hj => by
  have := h (o + j) (by omega)
  simpa using this

theorem there_same {w w' : World} {b o n : Nat} (hs : w'.heap[b]? = w.heap[b]?) (h : w.there b o n) : w'.there b o n := fun j hj => by
  obtain ⟨h1, h2⟩ := h j hj
  exact ⟨by rw [World.cell?_of_block (w := w) hs]; exact h1, by rw [World.frozen?_of_block (w := w) hs]; exact h2⟩
theorem one_cells {w : World} {S : Nat → Prop} (e : Ex) {s : Value} (h : Lies w S e.kids s) : (#[Value.int .i64 e.kind, .string e.name, .string e.tail, .int .i64 e.num, s] : Array Value).all (·.oneCell') = true := by
  obtain ⟨a, cap, rfl⟩ := h.slice
  simp [Value.oneCell']

/-- The first of es are copied: they lie in block nb, their parts behind it. -/
def Done (w : World) (nb : Nat) (es : List Ex) (ss : List Value) : Prop :=
  ∀ (i : Nat) (e : Ex) (s : Value), es[i]? = some e → ss[i]? = some s → w.rangeAt nb (0 + i * 5) (e.cells s) ∧ Lies w (fun b => nb < b ∧ b < w.heap.size) e.kids s

theorem Done.next {wr w2 : World} {nb : Nat} {es : List Ex} {ss : List Value} {s : Value} {k : Nat} (hd : Done wr nb es ss) (hk : ss.length = k) (hlt : k < es.length) (hnb : nb < wr.heap.size) (hb : Below wr.heap.size wr w2)
    (hth : w2.there nb (k * 5) 5) (hs : Lies w2 (fun b => wr.heap.size ≤ b ∧ b < w2.heap.size) es[k].kids s) : Done (w2.setCells nb (k * 5) (es[k].cells s)) nb es (ss ++ [s]) := by
  intro i e s' hi hs'
  by_cases h : i < k
  · rw [List.getElem?_append_left (by omega)] at hs'
    obtain ⟨h1, h2⟩ := hd i e s' hi hs'
    refine ⟨World.rangeAt_setCells_apart (rangeAt_same (hb.block nb hnb) h1) _ _ _ (Or.inr (Or.inl ?_)), h2.same fun b ⟨hb1, hb2⟩ => ⟨?_, hb1, ?_⟩⟩
    · simp [Ex.cells]; omega
    · rw [heap_setCells _ _ _ _ _ (by omega)]; exact hb.block b hb2
    · rw [size_setCells]; have := hb.size; omega
  · have hik : i = k := by
      have := (List.getElem?_eq_some_iff.1 hs').1
      simp at this; omega
    subst hik
    rw [List.getElem?_append_right (by omega)] at hs'
    simp [hk] at hs'
    subst hs'
    rw [List.getElem?_eq_getElem hlt] at hi
    cases hi
    refine ⟨?_, hs.same fun b ⟨hb1, hb2⟩ => ⟨?_, ?_, ?_⟩⟩
    · have := World.rangeAt_setCells_same w2 nb (i * 5) (es[i].cells s) hth
      simpa using this
    · exact heap_setCells _ _ _ _ _ (by omega)
    · omega
    · rw [size_setCells]; exact hb2

theorem Done.all {w : World} {nb : Nat} {es : List Ex} {ss : List Value} (hd : Done w nb es ss) (hl : ss.length = es.length) (hnb : nb < w.heap.size) (cap : Nat) : Lies w (fun b => nb ≤ b ∧ b < w.heap.size) es (.slice (some ⟨nb, 0, none⟩) es.length cap) :=
  .some nb 0 cap es ss ⟨Nat.le_refl _, hnb⟩ hl (fun i e s h1 h2 => (hd i e s h1 h2).1) fun i e s h1 h2 => (hd i e s h1 h2).2.same fun _ ⟨hb1, hb2⟩ => ⟨rfl, by omega, hb2⟩

/-- What toExpr does with one expression. -/
def ToOf (e : Ex) : Prop := ∀ (w : World) (s : Value), Lies w (· < w.heap.size) e.kids s →
  Calls Tryd.prog 6 #[e.val s] w fun r w' => ∃ s', r = .returned (e.val s') ∧ Lies w' (fun b => w.heap.size ≤ b ∧ b < w'.heap.size) e.kids s' ∧ Below w.heap.size w w'

theorem make_exprs (n : Nat) (hn : n ≤ 1048576) (w : World) : (Instr.makeSlice 26 (.int .i64 (n : Int)) (.int .i64 (n : Int))).run Tryd.prog w =
    .ok (.slice (some ⟨w.heap.size, 0, none⟩) n n) (w.alloc (.cells (madeCells #[.int .i64 0, .string ⟨#[]⟩, .string ⟨#[]⟩, .int .i64 0, .slice none 0 0] (n * 5)) 28)) := by
  have hinfo : (Tryd.prog.info? 28).map (fun i => (i.zero, i.size, i.bytes)) = some (some (.agg #[.int .i64 0, .string ⟨#[]⟩, .string ⟨#[]⟩, .int .i64 0, .slice none 0 0]), 5, 72) := by kernel_rfl
  obtain ⟨i, hi, hz⟩ := Option.map_eq_some_iff.1 hinfo
  simp only [Prod.mk.injEq] at hz
  obtain ⟨hz, hs, hb⟩ := hz
  have hr := run_make (P := Tryd.prog) w 26 28 i _ Tryd.underlying26 hi hz .i64 .i64 n n (by omega) (Int.le_refl _) (by rw [hb]; omega) (by omega)
  simpa [hs, Value.cells] using hr

theorem exprSize : (Tryd.prog.info? 28).map (·.size) = some 5 := by kernel_rfl

/-- One round's end: one part more is copied. -/
theorem toS_step {w wr w2 : World} {es : List Ex} {ss : List Value} {s' : Value} {k : Nat} (hdone : Done wr w.heap.size es ss) (hss : Hid (ss.length = k)) (hlt : k < es.length) (hnb : w.heap.size < wr.heap.size) (hb2 : Below wr.heap.size wr w2)
    (hp : w2.there w.heap.size (k * 5) 5) (hth : wr.there w.heap.size 0 (es.length * 5)) (hl2 : Lies w2 (fun b => wr.heap.size ≤ b ∧ b < w2.heap.size) es[k].kids s') (hb : Below w.heap.size w wr) :
    ∃ (k' : Nat) (ss' : List Value), k' ≤ es.length ∧ Value.int .i64 ((k : Int) + 1) = .int .i64 k' ∧ Hid (ss'.length = k') ∧
      Done (w2.setCells w.heap.size (k * 5) [.int .i64 es[k].kind, .string es[k].name, .string es[k].tail, .int .i64 es[k].num, s']) w.heap.size es ss' ∧
      (w2.setCells w.heap.size (k * 5) [.int .i64 es[k].kind, .string es[k].name, .string es[k].tail, .int .i64 es[k].num, s']).there w.heap.size 0 (es.length * 5) ∧
      w.heap.size < (w2.setCells w.heap.size (k * 5) [.int .i64 es[k].kind, .string es[k].name, .string es[k].tail, .int .i64 es[k].num, s']).heap.size ∧
      Below w.heap.size w (w2.setCells w.heap.size (k * 5) [.int .i64 es[k].kind, .string es[k].name, .string es[k].tail, .int .i64 es[k].num, s']) := by
  refine ⟨k + 1, ss ++ [s'], by omega, by simp, ?_, Done.next hdone hss.out hlt hnb hb2 hp hl2, World.there_setCells (there_same (hb2.block _ hnb) hth) _ _ _, ?_, Below.setCells (Nat.le_refl _) _ _ _ (hb.trans (hb2.mono hb.size))⟩
  · have := hss.out
    show (ss ++ [s']).length = k + 1
    simp; omega
  · rw [size_setCells]; have := hb2.size; omega

set_option maxHeartbeats 400000 in
theorem toS (es : List Ex) (hlen : es.length ≤ 1048576) (ih : ∀ e ∈ es, ToOf e) (w : World) (v : Value) (hv : Lies w (· < w.heap.size) es v) :
    Calls Tryd.prog 15 #[v] w fun r w' => ∃ v', r = .returned v' ∧ Lies w' (fun b => w.heap.size ≤ b ∧ b < w'.heap.size) es v' ∧ Below w.heap.size w w' := by
  obtain ⟨a, cap, rfl⟩ := hv.slice
  have hmk := make_exprs es.length hlen
  go_enter Tryd.func15, Tryd.ntmps15
  go_wp2_with fail
  go_loopw [4] (fun i wr => ∃ (k : Nat) (ss : List Value), k ≤ es.length ∧ i = .int .i64 k ∧ Hid (ss.length = k) ∧ Done wr w.heap.size es ss ∧ wr.there w.heap.size 0 (es.length * 5) ∧ w.heap.size < wr.heap.size ∧ Below w.heap.size w wr) (fun i _ => es.length - (intOf i).toNat)
  case atStart => exact ⟨0, [], by omega, rfl, rfl, fun i e s _ h => by simp at h, there_made _ _ _ _, by simp, (Below.refl _ _).alloc (Nat.le_refl _) _⟩
  case round =>
    obtain ⟨k, ss, hk, rfl, hss, hdone, hth, hnb, hb⟩ := hrel
    by_cases hlt : k < es.length
    · obtain ⟨b, off, cap', s, hS, hsl, hr, hl⟩ := hv.at (List.getElem?_eq_getElem hlt)
      obtain ⟨rfl, rfl⟩ : a = some ⟨b, off, none⟩ ∧ cap = cap' := by simpa using hsl
      obtain ⟨c0, c1, c2, c3, c4⟩ := Ex.five (rangeAt_same (hb.block b hS) hr)
      have hl' := (hl.keep hb hb.size)
      clear hr hl hsl
      have HT : ∀ w2, Below wr.heap.size wr w2 → w2.there w.heap.size (k * 5) 5 := fun w2 hb2 => there_part (there_same (hb2.block _ hnb) hth) (by omega)
      go_wp2_with (first | (go_at_call 6; refine (ih es[k] (List.getElem_mem hlt) _ _ hl').mono ?_; rintro e w2 ⟨s', rfl, hl2, hb2⟩) | (refine wpList_store_mid rfl 28 _ _ rfl w.heap.size (k * 5) #[.int .i64 es[k].kind, .string es[k].name, .string es[k].tail, .int .i64 es[k].num, s'] ?hx ?hy ?ht ?hi ?h1 ?_))
      case hx => rfl
      case hy => rfl
      case ht => exact HT w2 hb2
      case hi => exact exprSize
      case h1 => exact one_cells es[k] hl2
      go_roundw
      case rel => exact toS_step hdone hss hlt hnb hb2 (HT w2 hb2) hth hl2 hb
      case measure => simp [intOf]; omega
    · go_wp2_with fail
      go_ret
      exact ⟨_, rfl, hdone.all (by have := hss.out; omega) hnb _, hb⟩

theorem lies_set {w : World} {S : Nat → Prop} {es : List Ex} {v : Value} {p : Addr} {u : Value} (h : Lies w S es v) (hp : ¬ S p.block) : Lies (w.setCell p u) S es v :=
  h.same fun _ hb => ⟨Below.heap_setCell _ _ _ _ (fun e => hp (e ▸ hb)), hb⟩

set_option maxHeartbeats 400000 in
theorem to (e : Ex) : e.Wee → ToOf e := by
  induction e using Ex.ind with
  | h e ih =>
    intro hf w s hv
    obtain ⟨_, hk, hx⟩ := hf
    have ihS := toS e.kids hk (fun x hx' => ih x hx' (hx x hx'))
    have hv' : ∀ o1 o2 o3, Lies (((w.alloc o1).alloc o2).alloc o3) (· < (((w.alloc o1).alloc o2).alloc o3).heap.size) e.kids s := fun o1 o2 o3 => hv.keep ((((Below.refl _ _).alloc (Nat.le_refl _) o1).alloc (by simp) o2).alloc (by simp; omega) o3) (by simp; omega)
    go_enter Tryd.func6, Tryd.ntmps6
    go_wp2_with (go_at_call 15; refine (ihS _ _ (hv' _ _ _)).mono ?_; rintro r w2 ⟨s', rfl, hl2, hb2⟩; obtain ⟨a', cap', rfl⟩ := hl2.slice; obtain ⟨hc, hf⟩ := bcell hb2; have hz := hb2.size; simp at hz)
    refine bodyPost_ret (v := e.val (.slice a' e.kids.length cap')) (by simp [results, Tryd.results6, go_sem, hc]) rfl ⟨_, rfl, ?_, ?_⟩
    · refine Lies.same (S := fun b => w.heap.size + 1 + 1 + 1 ≤ b ∧ b < w2.heap.size) ?_ (fun b hb => ⟨rfl, by omega, by simp [World.setCell]; omega⟩)
      have hl3 : Lies w2 (fun b => w.heap.size + 1 + 1 + 1 ≤ b ∧ b < w2.heap.size) e.kids (.slice a' e.kids.length cap') := by simpa using hl2
      clear hc hf hb2 ihS hv' hl2
      repeat (refine lies_set ?_ (fun h => by have h1 := h.1; dsimp only at h1; omega))
      exact hl3
    · have hb3 : Below w.heap.size w w2 := ((((Below.refl _ _).alloc (Nat.le_refl _) _).alloc (by simp) _).alloc (by simp; omega) _).trans (hb2.mono (by simp; omega))
      clear hc hf hb2 ihS hv' hl2
      repeat (refine Below.setCell ?_ (by dsimp only; omega) _)
      exact hb3
end Go.Proofs.YtkjppjhmejkidaaDoor

namespace Go.Proofs.YtkjppjhmejkidaaDoor
open Go.RowKit

theorem Lies.drew {w : World} {B : Nat} {es : List Ex} {v : Value} (h : Lies w (· < B) es v) : Lies w.drew (· < B) es v :=
  h.same fun _ hb => ⟨rfl, hb⟩

/-- What eqExpr does with an expression, lying at two places. -/
def EqOf (e : Ex) : Prop := ∀ (w : World) (s1 s2 : Value), Lies w (· < w.heap.size) e.kids s1 → Lies w (· < w.heap.size) e.kids s2 →
  Calls Tryd.prog 8 #[e.val s1, e.val s2] w fun r w' => r = .returned (.bool true) ∧ Below w.heap.size w w'

set_option maxHeartbeats 400000 in
theorem eqS (es : List Ex) (hlen : es.length ≤ 1048576) (ih : ∀ e ∈ es, EqOf e) (w : World) (v1 v2 : Value) (hv1 : Lies w (· < w.heap.size) es v1) (hv2 : Lies w (· < w.heap.size) es v2) :
    Calls Tryd.prog 20 #[v1, v2] w fun r w' => r = .returned (.bool true) ∧ Below w.heap.size w w' := by
  obtain ⟨a1, cap1, rfl⟩ := hv1.slice
  obtain ⟨a2, cap2, rfl⟩ := hv2.slice
  go_enter Tryd.func20, Tryd.ntmps20
  go_wp2_with fail
  go_loopw [5] (fun i wr => ∃ (k : Nat), k ≤ es.length ∧ i = .int .i64 k ∧ Below w.heap.size w wr) (fun i _ => es.length - (intOf i).toNat)
  case atStart => exact ⟨0, by omega, rfl, Below.refl _ _⟩
  case round =>
    obtain ⟨k, hk, rfl, hb⟩ := hrel
    by_cases hlt : k < es.length
    · obtain ⟨b1, off1, cap1', s1, hS1, hsl1, hr1, hl1⟩ := hv1.at (List.getElem?_eq_getElem hlt)
      obtain ⟨rfl, rfl⟩ : a1 = some ⟨b1, off1, none⟩ ∧ cap1 = cap1' := by simpa using hsl1
      obtain ⟨b2, off2, cap2', s2, hS2, hsl2, hr2, hl2⟩ := hv2.at (List.getElem?_eq_getElem hlt)
      obtain ⟨rfl, rfl⟩ : a2 = some ⟨b2, off2, none⟩ ∧ cap2 = cap2' := by simpa using hsl2
      obtain ⟨c0, c1, c2, c3, c4⟩ := Ex.five (rangeAt_same (hb.block b1 hS1) hr1)
      obtain ⟨d0, d1, d2, d3, d4⟩ := Ex.five (rangeAt_same (hb.block b2 hS2) hr2)
      have hl1' := (hl1.keep hb hb.size)
      have hl2' := (hl2.keep hb hb.size)
      clear hr1 hl1 hsl1 hr2 hl2 hsl2
      have hi : (k : Int) < (es.length : Int) := by omega
      go_wp2_with fail
      go_region_with (go_at_call 8; refine (ih es[k] (List.getElem_mem hlt) _ _ _ hl1'.drew hl2'.drew).mono ?_; rintro r w2 ⟨rfl, hb2⟩)
      all_goals
        go_wp2_with fail
        go_roundw
        case rel => exact ⟨k + 1, by omega, by go_num, hb.drew.trans (hb2.mono hb.size)⟩
        case measure => simp [intOf]; omega
    · go_wp2_with fail
      go_ret
      exact ⟨rfl, hb⟩

set_option maxHeartbeats 400000 in
theorem eq (e : Ex) : e.Wee → EqOf e := by
  induction e using Ex.ind with
  | h e ih =>
    intro hf w s1 s2 hv1 hv2
    obtain ⟨_, hk, hx⟩ := hf
    have ihS := eqS e.kids hk (fun x hx' => ih x hx' (hx x hx'))
    have hb1 : ∀ o1 o2, Below w.heap.size w ((w.alloc o1).alloc o2) := fun o1 o2 => ((Below.refl _ _).alloc (Nat.le_refl _) o1).alloc (by simp) o2
    have hv1' : ∀ o1 o2, Lies ((w.alloc o1).alloc o2) (· < ((w.alloc o1).alloc o2).heap.size) e.kids s1 := fun o1 o2 => hv1.keep (hb1 o1 o2) (by simp; omega)
    have hv2' : ∀ o1 o2, Lies ((w.alloc o1).alloc o2) (· < ((w.alloc o1).alloc o2).heap.size) e.kids s2 := fun o1 o2 => hv2.keep (hb1 o1 o2) (by simp; omega)
    go_enter Tryd.func8, Tryd.ntmps8
    go_wp2_with (go_at_call 20; refine (ihS _ _ _ (hv1' _ _) (hv2' _ _)).mono ?_; rintro r w2 ⟨rfl, hb2⟩)
    go_ret
    exact ⟨rfl, (hb1 _ _).trans (hb2.mono (by simp; omega))⟩
end Go.Proofs.YtkjppjhmejkidaaDoor

namespace Go.Proofs.YtkjppjhmejkidaaDoor
open Go.RowKit

/-- The five cells of a box that was laid at B, in every later world. -/
theorem box5 {w wr : World} {a b c d x : Value} {t : TypeId} (h : Below (w.heap.size + 1) (w.alloc (.cells #[a, b, c, d, x] t)) wr) :
    wr.cell? ⟨w.heap.size, 0, none⟩ = some a ∧ wr.cell? ⟨w.heap.size, 1, none⟩ = some b ∧ wr.cell? ⟨w.heap.size, 2, none⟩ = some c ∧ wr.cell? ⟨w.heap.size, 3, none⟩ = some d ∧ wr.cell? ⟨w.heap.size, 4, none⟩ = some x := by
  have key : ∀ j, wr.cell? ⟨w.heap.size, j, none⟩ = (#[a, b, c, d, x] : Array Value)[j]? := fun j => by
    rw [h.cell (p := ⟨w.heap.size, j, none⟩) (by show w.heap.size < w.heap.size + 1; omega), cell_of_row _ _ _ _ _ _ (heap_alloc_new w _)]
  exact ⟨key 0, key 1, key 2, key 3, key 4⟩
theorem box_start {w w2 : World} {o : Obj} (h : Below (w.alloc o).heap.size (w.alloc o) w2) : Below (w.heap.size + 1) (w.alloc o) w2 := by simpa using h
theorem box_alloc {w wr : World} {o o2 : Obj} (h : Below (w.heap.size + 1) (w.alloc o) wr) : Below (w.heap.size + 1) (w.alloc o) (wr.alloc o2) :=
  h.alloc (by have := h.size; simpa using this) o2
theorem lies_alloc {w : World} {es : List Ex} {v : Value} (h : Lies w (· < w.heap.size) es v) (o : Obj) : Lies (w.alloc o) (· < (w.alloc o).heap.size) es v :=
  h.keep ((Below.refl _ _).alloc (Nat.le_refl _) o) (by simp)
theorem lies_box {w wr : World} {o : Obj} {es : List Ex} {v : Value} (h : Lies w (· < w.heap.size) es v) (hb : Below (w.heap.size + 1) (w.alloc o) wr) : Lies wr (· < wr.heap.size) es v :=
  h.keep (below_of_box hb) (below_of_box hb).size
theorem lies_lt {w : World} {N : Nat} {es : List Ex} {v : Value} (h : Lies w (fun b => N ≤ b ∧ b < w.heap.size) es v) : Lies w (· < w.heap.size) es v :=
  h.same fun _ hb => ⟨rfl, hb.2⟩
theorem tab_box {w wr : World} {o : Obj} (h : Tab w) (hb : Below (w.heap.size + 1) (w.alloc o) wr) : Tab wr := h.below (below_of_box hb) h.pos

theorem below_chain {w w7 w8 w9 : World} (h7 : Below w.heap.size w w7) (h8 : Below w7.drew.heap.size w7.drew w8) (h9 : Below w8.heap.size w8 w9) : Below w.heap.size w w9 := by
  have h78 := h7.drew.trans (h8.mono h7.size)
  exact h78.trans (h9.mono h78.size)

end Go.Proofs.YtkjppjhmejkidaaDoor

