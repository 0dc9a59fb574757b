/-
  The program's hasItsOwn at every kind, the census, ExprOk.
-/
import Derived.Test.YtdghblpaccaaiaaDoorExOwnA
import Derived.Test.YtdghblpaccaaiaaDoorExOwnB
import Derived.Test.YtdghblpaccaaiaaDoorExOwnC
import Derived.Test.YtdghblpaccaaiaaDoorExOwnD
import Derived.Test.YtdghblpaccaaiaaDoorExSize
namespace Go.Proofs.YtdghblpaccaaiaaDoor
open Go.RowKit

theorem own_bad (k : Int) (n : Nat) (a b : ByteArray) (u : Int) (h : k < 1 ∨ 21 < k) : ownC k n a b u = false := by
  apply own_kids
  rcases h with h | h
  · rw [kidsN_low k h]; omega
  · rw [kidsN_high k h]; omega

theorem impl_hasItsOwn (k : Int) (a b : ByteArray) (u : Int) (al : Option Addr) (n cap : Nat) (w : World) (hn : n ≤ maxLen) (ha : a.size ≤ maxLen) (hb : b.size ≤ maxLen) (hT : Tab w) :
    Calls Tryd.prog 25 #[.agg #[.int .i64 k, .string a, .string b, .int .i64 u, .slice al n cap]] w fun r w' => r = .returned (.bool (ownC k n a b u)) ∧ Below w.heap.size w w' := by
  have hn' : n ≤ 9223372036854775807 := by unfold maxLen at hn; omega
  rcases kind_cases k with (rfl | rfl | rfl | rfl | rfl | rfl | rfl | rfl | rfl | rfl | rfl | rfl | rfl | rfl | rfl | rfl | rfl | rfl | rfl | rfl | rfl) | h
  case inr => rw [own_bad k n a b u h]; exact own_none k a b u _ w h
  · exact own_1 a b u al n cap w hn' ha hb hT
  · exact own_2 a b u al n cap w hn' ha hb hT
  · exact own_3 a b u al n cap w hn' ha hb hT
  · exact own_4 a b u al n cap w hn' ha hb hT
  · exact own_5 a b u al n cap w hn' ha hb hT
  · exact own_6 a b u al n cap w hn' ha hb hT
  · exact own_7 a b u al n cap w hn' ha hb hT
  · exact own_8 a b u al n cap w hn' ha hb hT
  · exact own_9 a b u al n cap w hn' ha hb hT
  · exact own_10 a b u al n cap w hn' ha hb hT
  · exact own_11 a b u al n cap w hn' ha hb hT
  · exact own_12 a b u al n cap w hn' ha hb hT
  · exact own_13 a b u al n cap w hn' ha hb hT
  · exact own_14 a b u al n cap w hn' ha hb hT
  · exact own_15 a b u al n cap w hn' ha hb hT
  · exact own_16 a b u al n cap w hn' ha hb hT
  · exact own_17 a b u al n cap w hn' ha hb hT
  · exact own_18 a b u al n cap w hn' ha hb hT
  · exact own_19 a b u al n cap w hn' ha hb hT
  · exact own_20 a b u al n cap w hn' ha hb hT
  · exact own_21 a b u al n cap w hn' ha hb hT

/-- A count of parts never goes down. -/
theorem sizeAll_ge (d : Int) : ∀ (es : List Ex) (m : Int), 1 ≤ m → m ≤ 60 → m ≤ sizeAll es d m
  | [], m, _, _ => by rw [sizeAll]; omega
  | e :: es, m, h1, h2 => by
    rw [sizeAll]
    have he := sizeM_bd e d
    split
    · omega
    · have := sizeAll_ge d es (m + sizeM e d) (by omega) (by omega)
      omega

theorem takes_full (e : Ex) (d : Int) : 60 < 60 + sizeM e d := by have := sizeM_bd e d; omega
theorem takes_deep (e : Ex) (d : Int) (h : 14 < d) : sizeM e d = 61 := by rw [sizeM_eq, if_pos (Or.inl h)]
theorem takes_bad (e : Ex) (d : Int) (h : ownC e.kind e.kids.length e.name e.tail e.num = false) : sizeM e d = 61 := by
  rw [sizeM_eq, if_pos]
  by_cases hk : (e.kids.length : Int) = kidsN e.kind
  · right; right
    simpa [ownC, hk] using h
  · right; left; exact hk
theorem takes_good (e : Ex) (d : Int) (hd : ¬ 14 < d) (h : ownC e.kind e.kids.length e.name e.tail e.num = true) : sizeM e d = sizeAll (e.kids.drop 0) (d + 1) 1 := by
  simp [ownC] at h
  rw [sizeM_eq, if_neg (by rintro (h1 | h1 | h1); exact hd h1; exact h1 h.1; rw [h.2] at h1; cases h1)]; rfl
/-- Where a part is one too many the whole is too much. -/
theorem takes_over (es : List Ex) (d m n : Int) (k : Nat) (hlt : k < es.length) (hn : 0 ≤ n) (hm1 : 1 ≤ m) (hm2 : m ≤ 60) (h : 60 < n + m + sizeM es[k] d) : 60 < n + sizeAll (es.drop k) d m := by
  rw [sizeAll_drop es d m k hlt]
  have hb := sizeM_bd es[k] d
  split
  · omega
  · have := sizeAll_ge d (es.drop (k + 1)) (m + sizeM es[k] d) (by omega) (by omega)
    omega

/-- The count stands at x in block bc, and may be written; below bc all is as it was. -/
structure Counts (w w' : World) (bc : Nat) (x : Int) : Prop where
  cell : w'.cell? ⟨bc, 0, none⟩ = some (.int .i64 x)
  frozen : w'.frozen? ⟨bc, 0, none⟩ = false
  below : Below bc w w'
theorem Counts.start {w : World} {bc : Nat} {n x : Int} {o : Obj} (hcell : w.cell? ⟨bc, 0, none⟩ = some (.int .i64 n)) (hfro : w.frozen? ⟨bc, 0, none⟩ = false) (hbc : bc < w.heap.size) : Counts w ((w.setCell ⟨bc, 0, none⟩ (.int .i64 x)).alloc o) bc x := by
  have hs : (w.setCell ⟨bc, 0, none⟩ (.int .i64 x)).heap.size = w.heap.size := by simp [World.setCell]
  refine ⟨?_, ?_, ((Below.refl bc w).setCell (p := ⟨bc, 0, none⟩) (Nat.le_refl _) _).alloc (by omega) o⟩
  · rw [World.cell?_alloc_lt _ _ _ (by rw [hs]; exact hbc), World.cell?_setCell_same _ _ _ hcell]
  · rw [World.frozen?_alloc_past _ _ _ (by rw [hs]; exact hbc), World.frozen?_setCell]; exact hfro
theorem Counts.later {w w1 w2 : World} {bc : Nat} {x : Int} (h : Counts w w1 bc x) (hb : Below w1.heap.size w1 w2) (hbc : bc < w1.heap.size) : Counts w w2 bc x :=
  ⟨(hb.cell (p := ⟨bc, 0, none⟩) hbc).trans h.cell, (hb.frozen (p := ⟨bc, 0, none⟩) hbc).trans h.frozen, h.below.trans (hb.mono (Nat.le_of_lt hbc))⟩
/-- How the census ends: it says whether there is room for all of an expression, and if so counts it. -/
def Taken (w w' : World) (bc : Nat) (e : Ex) (n d : Int) (r : Ending) : Prop :=
  ∃ x : Int, r = .returned (.bool (decide (n + sizeM e d ≤ 60))) ∧ (n + sizeM e d ≤ 60 → x = n + sizeM e d) ∧ Counts w w' bc x
theorem Counts.said {w w' : World} {bc : Nat} {x : Int} {e : Ex} {n d : Int} {r : Ending} (h : Counts w w' bc x) (hr : r = .returned (.bool (decide (n + sizeM e d ≤ 60)))) (hx : n + sizeM e d ≤ 60 → x = n + sizeM e d) : Taken w w' bc e n d r :=
  ⟨x, hr, hx, h⟩
theorem dec_false {n m : Int} (h : m < n) : Ending.returned (.bool false) = .returned (.bool (decide (n ≤ m))) := by simp; omega

/-- What the census does with one expression. -/
def TakesOf (e : Ex) : Prop := ∀ (w : World) (bc : Nat) (s : Value) (n around : Int), Lies w (· < bc) e.kids s → w.cell? ⟨bc, 0, none⟩ = some (.int .i64 n) → w.frozen? ⟨bc, 0, none⟩ = false → Tab w → 0 < bc → bc < w.heap.size → 0 ≤ n → n ≤ 60 → 0 ≤ around → around ≤ 100 →
  Calls Tryd.prog 19 #[.pointer (some ⟨bc, 0, none⟩), e.val s, .int .i64 around] w fun r w' => Taken w w' bc e n (around + 1) r

theorem takes_no {w w3 : World} {bc : Nat} {n' n m d : Int} {e : Ex} {k : Nat} (h3 : Counts w w3 bc n') (HD : Hid (sizeM e d = sizeAll (e.kids.drop k) (d + 1) m)) (hlt : k < e.kids.length) (hn : 0 ≤ n) (hm1 : 1 ≤ m) (hm2 : m ≤ 60) (h : 60 < n + m + sizeM e.kids[k] (d + 1)) :
    Taken w w3 bc e n d (.returned (.bool false)) := by
  have hf : 60 < n + sizeM e d := by rw [HD.out]; exact takes_over e.kids (d + 1) m n k hlt hn hm1 hm2 h
  exact h3.said (dec_false hf) (fun h => by omega)
theorem takes_on {w w3 : World} {bc : Nat} {n' n m x : Int} (h3 : Counts w w3 bc n') (h : n' = n + m + x) : Counts w w3 bc (n + (m + x)) := by
  rw [show n + (m + x) = n' by omega]; exact h3

set_option maxHeartbeats 600000 in
theorem takes_walk (e : Ex) (hf : e.Fit) (ih : ∀ x ∈ e.kids, TakesOf x) : TakesOf e := by
  intro w bc s n around hv hcell hfro hT hbc0 hbc hn0 hn1 ha0 ha1
  obtain ⟨_, hn, ht, hk, hx⟩ := hf
  have hk2 := hk
  unfold maxLen at hk2
  obtain ⟨a, cap, rfl⟩ := hv.slice
  have HS := fun (x : Int) (o : Obj) => Counts.start (x := x) (o := o) hcell hfro hbc
  by_cases hfull : 60 < n + 1
  · obtain rfl : n = 60 := by omega
    have HF := takes_full e (around + 1)
    go_enter Tryd.func19, Tryd.ntmps19
    go_wp2_with fail
    go_ret
    exact (HS _ _).said (dec_false HF) (fun h => by omega)
  by_cases hdeep : 13 < around
  · have HF : 60 < n + sizeM e (around + 1) := by rw [takes_deep e (around + 1) (by omega)]; omega
    have HH : Hid (60 < n + sizeM e (around + 1)) := HF
    clear HF
    go_enter Tryd.func19, Tryd.ntmps19
    go_wp2_with fail
    go_ret
    exact (HS _ _).said (dec_false HH.out) (fun h => by have := HH.out; omega)
  have hsz : ∀ (x : Value) (o : Obj), ((w.setCell ⟨bc, 0, none⟩ x).alloc o).heap.size = w.heap.size + 1 := fun x o => by simp [World.setCell]
  have hT1 : ∀ (x : Int) (o : Obj), Tab ((w.setCell ⟨bc, 0, none⟩ (.int .i64 x)).alloc o) := fun x o => hT.below (HS x o).below hbc0
  have hown := impl_hasItsOwn e.kind e.name e.tail e.num a e.kids.length cap
  cases how : ownC e.kind e.kids.length e.name e.tail e.num
  · have HF : 60 < n + sizeM e (around + 1) := by rw [takes_bad e (around + 1) how]; omega
    have HH : Hid (60 < n + sizeM e (around + 1)) := HF
    clear HF
    go_enter Tryd.func19, Tryd.ntmps19
    go_wp2_with (go_at_call 25; refine (hown _ hk hn ht (hT1 _ _)).mono ?_; rintro r w2 ⟨rfl, hb2⟩; rw [how])
    go_ret
    exact ((HS _ _).later hb2 (by rw [hsz]; omega)).said (dec_false HH.out) (fun h => by have := HH.out; omega)
  · have HE : Hid (sizeM e (around + 1) = sizeAll (e.kids.drop 0) (around + 1 + 1) 1) := takes_good e (around + 1) (by omega) how
    go_enter Tryd.func19, Tryd.ntmps19
    go_wp2_with (go_at_call 25; refine (hown _ hk hn ht (hT1 _ _)).mono ?_; rintro r w2 ⟨rfl, hb2⟩; rw [how]; obtain ⟨hc, hff⟩ := bcell hb2)
    go_loopw [33] (fun i wr => ∃ (k : Nat) (m : Int), k ≤ e.kids.length ∧ i = .int .i64 k ∧ 1 ≤ m ∧ n + m ≤ 60 ∧ Hid (sizeM e (around + 1) = sizeAll (e.kids.drop k) (around + 1 + 1) m) ∧ Counts w wr bc (n + m) ∧ bc < wr.heap.size) (fun i _ => e.kids.length - (intOf i).toNat)
    case atStart => exact ⟨0, 1, by omega, rfl, by omega, by omega, HE, (HS _ _).later hb2 (by rw [hsz]; omega), by have := hb2.size; rw [hsz] at this; omega⟩
    case round =>
      obtain ⟨k, m, hkl, rfl, hm1, hm2, HD, hC, hbr⟩ := hrel
      clear hb2 hc hff
      by_cases hlt : k < e.kids.length
      · obtain ⟨b, off, cap', s, hS, hsl, hr, hl⟩ := hv.at (List.getElem?_eq_getElem hlt)
        obtain ⟨rfl, rfl⟩ : a = some ⟨b, off, none⟩ ∧ cap = cap' := by simpa using hsl
        obtain ⟨c0, c1, c2, c3, c4⟩ := Ex.five (rangeAt_same (hC.below.block b hS) hr)
        obtain ⟨a2, cap2, rfl⟩ := hl.slice
        have hC' : ∀ o, Counts w (wr.alloc o) bc (n + m) := fun o => hC.later ((Below.refl _ _).alloc (Nat.le_refl _) o) hbr
        have hl' : ∀ o, Lies (wr.alloc o) (· < bc) e.kids[k].kids (.slice a2 e.kids[k].kids.length cap2) := fun o => hl.keep (hC' o).below (Nat.le_refl _)
        have hT' : ∀ o, Tab (wr.alloc o) := fun o => hT.below (hC' o).below hbc0
        have hbr' : ∀ o, bc < (wr.alloc o).heap.size := fun o => by simp; omega
        have hsb := sizeM_bd e.kids[k] (around + 1 + 1)
        have hsd := sizeAll_drop e.kids (around + 1 + 1) m k hlt
        have HX : Hid (sizeAll (e.kids.drop k) (around + 1 + 1) m = if 60 < m + sizeM e.kids[k] (around + 1 + 1) then 61 else sizeAll (e.kids.drop (k + 1)) (around + 1 + 1) (m + sizeM e.kids[k] (around + 1 + 1))) := hsd
        clear hr hl hsl hsd
        go_wp2_with (go_at_call 19; refine (ih e.kids[k] (List.getElem_mem hlt) _ bc _ (n + m) (around + 1) (hl' _) (hC' _).cell (hC' _).frozen (hT' _) hbc0 (hbr' _) (by omega) (by omega) (by omega) (by omega)).mono ?_; rintro r w3 ⟨n', rfl, hn', hC3⟩; have HN : Hid (n + m + sizeM e.kids[k] (around + 1 + 1) ≤ 60 → n' = n + m + sizeM e.kids[k] (around + 1 + 1)) := hn'; clear hn'; have HC3 : Counts w w3 bc n' := ⟨hC3.cell, hC3.frozen, (hC' _).below.trans hC3.below⟩; have hz3 : bc < w3.heap.size := Nat.lt_of_lt_of_le (hbr' _) hC3.below.size; clear hC3)
        · have h : 60 < n + m + sizeM e.kids[k] (around + 1 + 1) := by simpa using ‹(!decide (n + m + sizeM e.kids[k] (around + 1 + 1) ≤ 60)) = true›
          go_ret
          exact takes_no HC3 HD hlt hn0 hm1 (by omega) h
        · have h : n + m + sizeM e.kids[k] (around + 1 + 1) ≤ 60 := by simpa using ‹(!decide (n + m + sizeM e.kids[k] (around + 1 + 1) ≤ 60)) = false›
          go_roundw
          case rel => exact ⟨k + 1, m + sizeM e.kids[k] (around + 1 + 1), by omega, by go_num, by omega, by omega, by show _ = _; rw [HD.out, HX.out, if_neg (by omega)], takes_on HC3 (HN.out h), hz3⟩
          case measure => simp [intOf]; omega
      · go_wp2_with fail
        go_ret
        exact hC.said (by rw [HD.out, List.drop_eq_nil_of_le (by omega), sizeAll]; simp; omega) (fun _ => by rw [HD.out, List.drop_eq_nil_of_le (by omega), sizeAll])

theorem impl_takes (e : Ex) : e.Fit → TakesOf e := by
  induction e using Ex.ind with
  | h e ih =>
    intro hf
    have hx : ∀ x ∈ e.kids, x.Fit := by cases hf; assumption
    exact takes_walk e hf fun x hm => ih x hm (hx x hm)

set_option maxHeartbeats 400000 in
theorem impl_ExprOk (e : Ex) (hf : e.Fit) (w : World) (s : Value) (hv : Lies w (· < w.heap.size) e.kids s) (hT : Tab w) :
    Calls Tryd.prog 13 #[e.val s] w fun r w' => r = .returned (.bool (decide (sizeM e 1 ≤ 60))) ∧ Below w.heap.size w w' := by
  have hb : ∀ o1 o2, Below w.heap.size w ((w.alloc o1).alloc o2) := below2 w
  have hv' : ∀ o1 o2, Lies ((w.alloc o1).alloc o2) (· < w.heap.size + 1) e.kids s := fun o1 o2 => hv.keep (hb o1 o2) (by omega)
  have hT' : ∀ o1 o2, Tab ((w.alloc o1).alloc o2) := fun o1 o2 => hT.below (hb o1 o2) hT.pos
  have hp := hT.pos
  have hsz : ∀ o1 o2, w.heap.size + 1 < ((w.alloc o1).alloc o2).heap.size := fun o1 o2 => by simp
  go_enter Tryd.func13, Tryd.ntmps13
  go_wp2_with (go_at_call 19; refine (impl_takes e hf _ (w.heap.size + 1) _ 0 0 (hv' _ _) (by simp) (by simp) (hT' _ _) (by omega) (hsz _ _) (by omega) (by omega) (by omega) (by omega)).mono ?_; rintro r w3 ⟨n', rfl, _, hC3⟩)
  go_ret
  exact ⟨rfl, (hb _ _).trans (hC3.below.mono (by omega))⟩
end Go.Proofs.YtdghblpaccaaiaaDoor
