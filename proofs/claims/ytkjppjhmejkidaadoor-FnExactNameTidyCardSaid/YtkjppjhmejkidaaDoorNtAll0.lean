/-
  Expressions as plain data, and what it is that an expression lies in memory: a value of five cells, its parts in a row of a block. No program is named here.
  The law's own szExpr, szExprS: they answer some number, whatever the expression; nothing old is written.
  Plain mathematics of names: which texts are names, said byte by byte; no program is named here.
  What each function on the road of FnExactNameOk does, for every argument: contracts, callees first.
  What is bound around: lists of texts, where a name was bound last, what a kind binds in a part.
-/
import Derived.Below
import Derived.Deep.MidRow
import Derived.Test.YtkjppjhmejkidaaDoorRows
import Derived.WalkKit
import Derived.WalkSpells
import Derived.WalkLawsBesides
import Derived.LaidLaws
import Derived.ChangeArms
import Derived.OpenShut
import Derived.Lib.LazyBuf
namespace Go.Proofs.YtkjppjhmejkidaaDoor
open Go.RowKit

/-- An expression: its kind, its names, its number, its parts. -/
inductive Ex where
  | mk (kind : Int) (name tail : ByteArray) (num : Int) (kids : List Ex)

def Ex.kind : Ex → Int | .mk k _ _ _ _ => k
def Ex.name : Ex → ByteArray | .mk _ n _ _ _ => n
def Ex.tail : Ex → ByteArray | .mk _ _ t _ _ => t
def Ex.num : Ex → Int | .mk _ _ _ u _ => u
def Ex.kids : Ex → List Ex | .mk _ _ _ _ ks => ks

theorem Ex.ind {p : Ex → Prop} (h : ∀ e : Ex, (∀ x ∈ e.kids, p x) → p e) : ∀ e, p e
  | .mk k n t u ks => h (.mk k n t u ks) fun x _hx => Ex.ind h x
termination_by e => SizeOf.sizeOf e
decreasing_by
  have hx1 : x ∈ ks := _hx
  have := List.sizeOf_lt_of_mem hx1
  simp; omega

/-- The five cells of an expression whose parts are the slice s. -/
def Ex.cells (e : Ex) (s : Value) : List Value := [.int .i64 e.kind, .string e.name, .string e.tail, .int .i64 e.num, s]
/-- Its value. -/
abbrev Ex.val (e : Ex) (s : Value) : Value := .agg #[.int .i64 e.kind, .string e.name, .string e.tail, .int .i64 e.num, s]

/-- The parts es lie in w as the slice value v, in blocks of which S holds. -/
inductive Lies (w : World) (S : Nat → Prop) : List Ex → Value → Prop
  | none (a : Option Addr) (cap : Nat) : Lies w S [] (.slice a 0 cap)
  | some (b off cap : Nat) (es : List Ex) (ss : List Value) (hb : S b) (hl : ss.length = es.length)
      (hc : ∀ (i : Nat) (e : Ex) (s : Value), es[i]? = Option.some e → ss[i]? = Option.some s → w.rangeAt b (off + i * 5) (e.cells s))
      (hk : ∀ (i : Nat) (e : Ex) (s : Value), es[i]? = Option.some e → ss[i]? = Option.some s → Lies w S e.kids s) :
      Lies w S es (.slice (Option.some ⟨b, off, Option.none⟩) es.length cap)

theorem rangeAt_same {w w' : World} {b o : Nat} {cs : List Value} (hs : w'.heap[b]? = w.heap[b]?) (h : w.rangeAt b o cs) : w'.rangeAt b o cs :=
  fun j v hv => by rw [← h j v hv]; exact World.cell?_of_block (w := w) hs

/-- The five cells, one by one. -/
theorem Ex.five {w : World} {b o : Nat} {e : Ex} {s : Value} (h : w.rangeAt b o (e.cells s)) :
    w.cell? ⟨b, o, none⟩ = some (.int .i64 e.kind) ∧ w.cell? ⟨b, o + 1, none⟩ = some (.string e.name) ∧ w.cell? ⟨b, o + 2, none⟩ = some (.string e.tail) ∧ w.cell? ⟨b, o + 3, none⟩ = some (.int .i64 e.num) ∧ w.cell? ⟨b, o + 4, none⟩ = some s :=
  ⟨h 0 _ rfl, h 1 _ rfl, h 2 _ rfl, h 3 _ rfl, h 4 _ rfl⟩

theorem Lies.same {w w' : World} {S S' : Nat → Prop} {es : List Ex} {v : Value} (h : Lies w S es v) (hs : ∀ b, S b → w'.heap[b]? = w.heap[b]? ∧ S' b) : Lies w' S' es v := by
  induction h with
  | none a cap => exact .none a cap
  | some b off cap es ss hb hl hc hk ih => exact .some b off cap es ss (hs b hb).2 hl (fun i e s h1 h2 => rangeAt_same (hs b hb).1 (hc i e s h1 h2)) ih

/-- What lies below B lies there where nothing below B has turned. -/
theorem Lies.keep {w w' : World} {B B' : Nat} {es : List Ex} {v : Value} (h : Lies w (· < B) es v) (hb : Below B w w') (hB : B ≤ B') : Lies w' (· < B') es v :=
  h.same fun b hlt => ⟨hb.block b hlt, Nat.lt_of_lt_of_le hlt hB⟩

/-- The slice that holds parts: its length is theirs. -/
theorem Lies.slice {w : World} {S : Nat → Prop} {es : List Ex} {v : Value} (h : Lies w S es v) : ∃ a cap, v = .slice a es.length cap := by
  cases h with
  | none a cap => exact ⟨a, cap, rfl⟩
  | some b off cap es ss _ _ _ _ => exact ⟨_, cap, rfl⟩

/-- The part at a place: where it lies, and its own parts. -/
theorem Lies.at {w : World} {S : Nat → Prop} {es : List Ex} {v : Value} (h : Lies w S es v) {i : Nat} {e : Ex} (hi : es[i]? = Option.some e) :
    ∃ b off cap s, S b ∧ v = .slice (Option.some ⟨b, off, Option.none⟩) es.length cap ∧ w.rangeAt b (off + i * 5) (e.cells s) ∧ Lies w S e.kids s := by
  cases h with
  | none a cap => simp at hi
  | some b off cap es ss hb hl hc hk =>
    obtain ⟨hlt, _⟩ := List.getElem?_eq_some_iff.1 hi
    have h2 : ss[i]? = Option.some ss[i] := List.getElem?_eq_getElem (by omega)
    exact ⟨b, off, cap, ss[i], hb, rfl, hc i e _ hi h2, hk i e _ hi h2⟩

/-- Texts and lists of it are no longer than any can be. -/
inductive Ex.Fit : Ex → Prop
  | mk (e : Ex) (hn : e.name.size ≤ maxLen) (ht : e.tail.size ≤ maxLen) (hk : e.kids.length ≤ maxLen) (h : ∀ x ∈ e.kids, Ex.Fit x) : Ex.Fit e

/-- No list of it is longer than the law lets by. -/
inductive Ex.Wee : Ex → Prop
  | mk (e : Ex) (hk : e.kids.length ≤ 1048576) (h : ∀ x ∈ e.kids, Ex.Wee x) : Ex.Wee e

end Go.Proofs.YtkjppjhmejkidaaDoor

namespace Go.Proofs.YtkjppjhmejkidaaDoor
open Go.RowKit

theorem bcell {W w1 : World} (hb : Below W.heap.size W w1) : (∀ b o, b < W.heap.size → w1.cell? ⟨b, o, none⟩ = W.cell? ⟨b, o, none⟩) ∧ (∀ b o, b < W.heap.size → w1.frozen? ⟨b, o, none⟩ = W.frozen? ⟨b, o, none⟩) :=
  ⟨fun b o h => hb.cell (p := ⟨b, o, none⟩) h, fun b o h => hb.frozen (p := ⟨b, o, none⟩) h⟩

/-- What szExpr does with one expression. -/
def SzOf (e : Ex) : Prop := ∀ (w : World) (s : Value) (left : Int), Lies w (· < w.heap.size) e.kids s → 0 ≤ left → left ≤ 1048576 →
  Calls Tryd.prog 4 #[e.val s, .int .i64 left] w fun r w' => (∃ n : Int, r = .returned (.int .i64 n) ∧ n ≤ left ∧ (0 ≤ n → e.Wee)) ∧ Below w.heap.size w w'

theorem wee_snoc (es : List Ex) (k : Nat) (n : Int) (hlt : k < es.length) (h : ∀ i (hi : i < es.length), i < k → (es[i]).Wee) (hw : 0 ≤ n → es[k].Wee) (hn : 0 ≤ n) : Hid (∀ i (hi : i < es.length), i < k + 1 → (es[i]).Wee) := by
  intro i hi hik
  by_cases e : i = k
  · subst e; exact hw hn
  · exact h i hi (by omega)
theorem wee_all (es : List Ex) (h : ∀ i (hi : i < es.length), (es[i]).Wee) : ∀ x ∈ es, x.Wee := by
  intro x hx
  obtain ⟨i, hi, rfl⟩ := List.getElem_of_mem hx
  exact h i hi

set_option maxHeartbeats 400000 in
theorem szS (es : List Ex) (hlen : es.length ≤ maxLen) (ih : ∀ e ∈ es, SzOf e) (w : World) (v : Value) (left : Int) (hv : Lies w (· < w.heap.size) es v) (h0 : 0 ≤ left) (h1 : left ≤ 1048576) :
    Calls Tryd.prog 11 #[v, .int .i64 left] w fun r w' => (∃ n : Int, r = .returned (.int .i64 n) ∧ n ≤ left ∧ (0 ≤ n → es.length ≤ 1048576 ∧ ∀ x ∈ es, x.Wee)) ∧ Below w.heap.size w w' := by
  unfold maxLen at hlen
  obtain ⟨a, cap, rfl⟩ := hv.slice
  by_cases hneg : left - es.length < 0
  · go_enter Tryd.func11, Tryd.ntmps11
    go_wp2_with fail
    go_ret
    exact ⟨⟨_, rfl, by omega, by omega⟩, Below.refl _ _⟩
  · go_enter Tryd.func11, Tryd.ntmps11
    go_wp2_with fail
    go_loopw [1, 5] (fun l i wr => ∃ (k : Nat) (m : Int), k ≤ es.length ∧ i = .int .i64 k ∧ l = .int .i64 m ∧ 0 ≤ m ∧ m ≤ left ∧ Hid (∀ i (hi : i < es.length), i < k → (es[i]).Wee) ∧ Below w.heap.size w wr) (fun _ i _ => es.length - (intOf i).toNat)
    case atStart => exact ⟨0, _, by omega, rfl, rfl, by omega, by omega, fun _ _ h => absurd h (by omega), Below.refl _ _⟩
    case round =>
      obtain ⟨k, m, hk, rfl, rfl, hm0, hm1, hwee, hb⟩ := hrel
      by_cases hlt : k < es.length
      · obtain ⟨b, off, cap', s, hS, hsl, hr, hl⟩ := hv.at (List.getElem?_eq_getElem hlt)
        obtain ⟨rfl, rfl⟩ : a = some ⟨b, off, none⟩ ∧ cap = cap' := by simpa using hsl
        obtain ⟨c0, c1, c2, c3, c4⟩ := Ex.five (rangeAt_same (hb.block b hS) hr)
        have hl' := (hl.keep hb hb.size)
        clear hr hl hsl
        go_wp2_with (go_at_call 4; refine (ih es[k] (List.getElem_mem hlt) _ _ _ hl' hm0 (by omega)).mono ?_; rintro e w' ⟨⟨n, rfl, hn, hw⟩, hb2⟩; have HW : Hid (0 ≤ n → es[k].Wee) := hw; clear hw)
        · go_ret
          exact ⟨⟨_, rfl, by omega, by omega⟩, hb.trans (hb2.mono hb.size)⟩
        · go_roundw
          case rel => exact ⟨k + 1, n, by omega, by go_num, rfl, by omega, by omega, wee_snoc es k n hlt hwee.out HW.out (by omega), hb.trans (hb2.mono hb.size)⟩
          case measure => simp [intOf]; omega
      · go_wp2_with fail
        go_ret
        exact ⟨⟨_, rfl, by omega, fun _ => ⟨by omega, wee_all es (fun i hi => hwee.out i hi (by omega))⟩⟩, hb⟩

set_option maxHeartbeats 400000 in
theorem sz (e : Ex) : e.Fit → SzOf e := by
  induction e using Ex.ind with
  | h e ih =>
    intro hf w s left hv h0 h1
    obtain ⟨_, hn, ht, hk, hx⟩ := hf
    have ihS := szS e.kids hk (fun x hx' => ih x hx' (hx x hx'))
    unfold maxLen at hn ht hk
    by_cases hneg1 : left - e.name.size < 0
    · go_enter Tryd.func4, Tryd.ntmps4
      go_wp2_with fail
      go_ret
      exact ⟨⟨_, rfl, by omega, by omega⟩, (Below.refl _ _).alloc (Nat.le_refl _) _⟩
    by_cases hneg2 : left - e.name.size - e.tail.size < 0
    · go_enter Tryd.func4, Tryd.ntmps4
      go_wp2_with fail
      go_ret
      exact ⟨⟨_, rfl, by omega, by omega⟩, (Below.refl _ _).alloc (Nat.le_refl _) _⟩
    have hv' : ∀ o, Lies (w.alloc o) (· < (w.alloc o).heap.size) e.kids s := fun o => hv.keep ((Below.refl _ _).alloc (Nat.le_refl _) o) (by simp)
    go_enter Tryd.func4, Tryd.ntmps4
    go_wp2_with (go_at_call 11; refine (ihS _ _ _ (hv' _) (by omega) (by omega)).mono ?_; rintro r w' ⟨⟨n, rfl, hn, hw⟩, hb2⟩; have HW : Hid (0 ≤ n → e.kids.length ≤ 1048576 ∧ ∀ x ∈ e.kids, x.Wee) := hw; clear hw)
    all_goals go_ret
    all_goals exact ⟨⟨_, rfl, by omega, fun hn0 => .mk e (HW.out (by omega)).1 (HW.out (by omega)).2⟩, ((Below.refl _ _).alloc (Nat.le_refl _) _).trans (hb2.mono (by simp))⟩
end Go.Proofs.YtkjppjhmejkidaaDoor

namespace Go.Proofs.YtkjppjhmejkidaaDoor

/-- The byte at a place, as a number; 0 past the end. -/
def bAt (s : ByteArray) (k : Nat) : Int := if h : k < s.size then (s[k].toNat : Int) else 0
theorem bAt_eq (s : ByteArray) (k : Nat) (h : k < s.size) : bAt s k = (s[k].toNat : Int) := by simp [bAt, h]
theorem bAt_bd (s : ByteArray) (k : Nat) : 0 ≤ bAt s k ∧ bAt s k ≤ 255 := by
  unfold bAt
  split
  · rename_i h; have := s[k].toNat_lt; omega
  · omega

def letB (x : Int) : Bool := decide (97 ≤ x ∧ x ≤ 122)
def figB (x : Int) : Bool := decide (48 ≤ x ∧ x ≤ 57)
def wordB (x : Int) : Bool := letB x || figB x
/-- Whether the byte x may stand at place k of a name. -/
def fitB (k : Nat) (x : Int) : Bool := letB x || (decide (k ≠ 0) && figB x)
/-- Whether the first k bytes may stand where they do. -/
def okTo (s : ByteArray) : Nat → Bool
  | 0 => true
  | k + 1 => okTo s k && fitB k (bAt s k)
theorem okTo_false (s : ByteArray) (k n : Nat) (h : okTo s k = false) (hkn : k ≤ n) : okTo s n = false := by
  induction n with
  | zero => obtain rfl : k = 0 := by omega
            exact h
  | succ n ih =>
    by_cases e : k = n + 1
    · subst e; exact h
    · simp [okTo, ih (by omega)]

/-- The words that are no names. -/
def words : List ByteArray := [⟨#[102, 117, 110]⟩, ⟨#[108, 101, 116]⟩, ⟨#[114, 101, 99]⟩, ⟨#[105, 110]⟩, ⟨#[105, 102]⟩, ⟨#[116, 104, 101, 110]⟩, ⟨#[101, 108, 115, 101]⟩, ⟨#[99, 97, 115, 101]⟩, ⟨#[111, 102]⟩, ⟨#[110, 105, 108]⟩, ⟨#[102, 115, 116]⟩, ⟨#[115, 110, 100]⟩, ⟨#[116, 114, 117, 101]⟩, ⟨#[102, 97, 108, 115, 101]⟩, ⟨#[115, 112, 97, 119, 110]⟩, ⟨#[115, 101, 110, 100]⟩, ⟨#[115, 101, 108, 102]⟩, ⟨#[114, 101, 99, 118]⟩, ⟨#[111, 117, 116]⟩, ⟨#[108, 105, 110, 107]⟩]
def word (k : Nat) : ByteArray := words.getD k ByteArray.empty
/-- Whether one of the first k words is the text. -/
def hitTo (s : ByteArray) : Nat → Bool
  | 0 => false
  | k + 1 => hitTo s k || ((word k).toList == s.toList)
theorem hitTo_true (s : ByteArray) (k n : Nat) (h : hitTo s k = true) (hkn : k ≤ n) : hitTo s n = true := by
  induction n with
  | zero => obtain rfl : k = 0 := by omega
            exact h
  | succ n ih =>
    by_cases e : k = n + 1
    · subst e; exact h
    · simp [hitTo, ih (by omega)]

/-- Whether a text is a name. -/
def nameB (s : ByteArray) : Bool := decide (1 ≤ s.size ∧ s.size ≤ 4) && okTo s s.size && !hitTo s 20
theorem nameB_size (s : ByteArray) (h : ¬ (1 ≤ s.size ∧ s.size ≤ 4)) : nameB s = false := by simp [nameB, h]
theorem nameB_ok (s : ByteArray) (k : Nat) (h : okTo s k = false) (hk : k ≤ s.size) : nameB s = false := by
  simp [nameB, okTo_false s k s.size h hk]
theorem nameB_hit (s : ByteArray) (k : Nat) (h : hitTo s k = true) (hk : k ≤ 20) : nameB s = false := by
  simp [nameB, hitTo_true s k 20 h hk]
theorem nameB_yes (s : ByteArray) (h1 : 1 ≤ s.size) (h4 : s.size ≤ 4) (h : okTo s s.size = true) (hh : hitTo s 20 = false) : nameB s = true := by
  simp [nameB, h1, h4, h, hh]

/-- Two texts of the same bytes are the same. -/
theorem text_ext {x y : ByteArray} (h : x.data.toList = y.data.toList) : x = y := by
  cases x; cases y; simp at h; simp [h]

/-- If an array of texts reads as a list of texts, its cells are these texts. -/
theorem cells_of_strs {H : Type} {enc : TypeId × Value → H} {P : Program} {w : World} {base : Nat} {sp : Nat → Bool} {held : Bool} {fuel : Nat} {t e : TypeId} {n : Nat} {cs : List Value} {zs : List ByteArray} {p : List MemPlace}
    (ht : P.underlying t = some (.array n e)) (he : P.underlying e = some .string) (hce : P.cellsOf e = 1) (hct : P.cellsOf t = n)
    (h : DataW.trod enc P w base sp held fuel t cs = some (.agg (zs.map fun z => .lit (.string z.data.toList)), p)) : cs = zs.map fun z => Value.string z := by
  obtain ⟨xs, m, _, hx, hlen, hxn, hat⟩ := DataW.trod_array ht h
  simp only [Prod.mk.injEq, DataW.agg.injEq] at hx
  have hzn : zs.length = n := by
    have := congrArg List.length hx.1
    simp at this; omega
  refine List.ext_getElem (by simp; omega) fun i h1 h2 => ?_
  have hi : i < n := by omega
  have hr := hat i hi
  rw [hce, Nat.mul_one, List.getElem?_eq_getElem (by omega)] at hr
  obtain ⟨s, hs, hy, _⟩ := DataW.trod_string he hr
  have hd : (List.map (·.1) xs)[i]'(by simp; omega) = DataW.lit (.string s.data.toList) := by simp [hy]
  have hz : s = zs[i] := by
    have := List.getElem_of_eq hx.1.symm (i := i) (by simp; omega)
    rw [hd] at this
    simp only [List.getElem_map, DataW.lit.injEq, Lit.string.injEq] at this
    exact text_ext this
  have hc : cs[i] = .string s := by
    rw [List.drop_eq_getElem_cons h1, List.take_succ_cons] at hs
    exact (List.cons.inj hs).1
  simp [hc, hz]

/-- FROM A ROW's CONDITION TO WHAT THE VARIABLE HOLDS: a table of texts that stands FIRST on the list. -/
theorem strs_of_head {P : Program} {W : World} {name : String} {zs : List ByteArray} {rest : List (String × DataW Unit)} {g : Nat} {t e : TypeId} {n : Nat}
    (hg : P.globalNamed name = some g) (hty : (P.globals[g]?).map (·.type) = some t) (ht : P.underlying t = some (.array n e)) (he : P.underlying e = some .string) (hce : P.cellsOf e = 1) (hct : P.cellsOf t = n)
    (h : laidMet P ((name, .agg (zs.map fun z => .lit (.string z.data.toList))) :: rest) W) : W.var? P name = some (zs.map fun z => Value.string z).toArray := by
  obtain ⟨ps, ⟨g', t', cs, fuel, p, q, hg', ht', hvar, hd, _, _⟩, _⟩ := h
  obtain rfl := Option.some.inj (hg.symm.trans hg')
  obtain rfl := Option.some.inj (hty.symm.trans ht')
  rw [hvar, ← cells_of_strs ht he hce hct hd]

end Go.Proofs.YtkjppjhmejkidaaDoor

namespace Go.Proofs.YtkjppjhmejkidaaDoor
open Go.RowKit

theorem ret_bool {a b : Bool} (h : a = b) : Ending.returned (.bool a) = .returned (.bool b) := by rw [h]

set_option maxHeartbeats 400000 in
theorem impl_isLetter (x : Int) (w : World) (h0 : 0 ≤ x) (h1 : x ≤ 255) :
    Calls Tryd.prog 61 #[.int .u8 x] w fun e w' => e = .returned (.bool (letB x)) ∧ w = w' := by
  go_enter Tryd.func61, Tryd.ntmps61
  go_wp2
  all_goals
    go_ret
    exact ⟨ret_bool (by rw [Bool.eq_iff_iff]; simp [letB]; omega), rfl⟩

set_option maxHeartbeats 400000 in
theorem spec_l1Letter (x : Int) (w : World) (h0 : 0 ≤ x) (h1 : x ≤ 255) :
    Calls Tryd.prog 53 #[.int .u8 x] w fun e w' => e = .returned (.bool (letB x)) ∧ w = w' := by
  go_enter Tryd.func53, Tryd.ntmps53
  go_wp2
  all_goals
    go_ret
    exact ⟨ret_bool (by rw [Bool.eq_iff_iff]; simp [letB]; omega), rfl⟩

set_option maxHeartbeats 400000 in
theorem impl_isFigure (x : Int) (w : World) (h0 : 0 ≤ x) (h1 : x ≤ 255) :
    Calls Tryd.prog 68 #[.int .u8 x] w fun e w' => e = .returned (.bool (figB x)) ∧ w = w' := by
  go_enter Tryd.func68, Tryd.ntmps68
  go_wp2
  all_goals
    go_ret
    exact ⟨ret_bool (by rw [Bool.eq_iff_iff]; simp [figB]; omega), rfl⟩

set_option maxHeartbeats 400000 in
theorem spec_l1Figure (x : Int) (w : World) (h0 : 0 ≤ x) (h1 : x ≤ 255) :
    Calls Tryd.prog 54 #[.int .u8 x] w fun e w' => e = .returned (.bool (figB x)) ∧ w = w' := by
  go_enter Tryd.func54, Tryd.ntmps54
  go_wp2
  all_goals
    go_ret
    exact ⟨ret_bool (by rw [Bool.eq_iff_iff]; simp [figB]; omega), rfl⟩

set_option maxHeartbeats 400000 in
theorem impl_isWordByte (x : Int) (w : World) (h0 : 0 ≤ x) (h1 : x ≤ 255) :
    Calls Tryd.prog 62 #[.int .u8 x] w fun e w' => e = .returned (.bool (wordB x)) ∧ w = w' := by
  go_enter Tryd.func62, Tryd.ntmps62
  go_wp2_with (first | (go_at_call 61; refine (impl_isLetter _ _ (by assumption) (by assumption)).mono ?_; rintro e w' ⟨rfl, rfl⟩) | (go_at_call 68; refine (impl_isFigure _ _ (by assumption) (by assumption)).mono ?_; rintro e w' ⟨rfl, rfl⟩))
  all_goals
    go_ret
    exact ⟨ret_bool (by simp [wordB, *]), rfl⟩

set_option maxHeartbeats 400000 in
theorem spec_l1In (n a b : Int) (w : World) :
    Calls Tryd.prog 48 #[.int .i64 n, .int .i64 a, .int .i64 b] w fun e w' => e = .returned (.bool (decide (a ≤ n ∧ n ≤ b))) ∧ w = w' := by
  go_enter Tryd.func48, Tryd.ntmps48
  go_wp2
  all_goals
    go_ret
    exact ⟨ret_bool (by rw [Bool.eq_iff_iff]; simp; omega), rfl⟩

/-- The words as values. -/
def wordVals : Array Value := (words.map fun z => Value.string z).toArray

set_option maxHeartbeats 400000 in
theorem spec_l1Words (w : World) :
    Calls Tryd.prog 55 #[] w fun e w' => e = .returned (.slice (some ⟨w.heap.size, 0, none⟩) 20 20) ∧ w' = w.alloc (.cells wordVals 9) := by
  go_enter Tryd.func55, Tryd.ntmps55
  go_wp2
  go_ret
  exact ⟨rfl, rfl⟩

theorem ret_int {k : IntKind} {a b : Int} (h : a = b) : Ending.returned (.int k a) = .returned (.int k b) := by rw [h]

theorem hit_yes (s : ByteArray) (k : Nat) (h : ((word k).toList == s.toList) = true) : hitTo s (k + 1) = true := by
  rw [hitTo, h, Bool.or_true]
theorem hit_no (s : ByteArray) (k : Nat) (h0 : hitTo s k = false) (h : ((word k).toList == s.toList) = false) : hitTo s (k + 1) = false := by
  rw [hitTo, h0, h]; rfl
set_option maxHeartbeats 400000 in
/-- A place at which the words have the text; -1 if none. -/
theorem spec_l1Find (b : Nat) (s : ByteArray) (w : World) (hc : ∀ k, k < 20 → w.cell? ⟨b, k, none⟩ = some (.string (word k))) :
    Calls Tryd.prog 41 #[.slice (some ⟨b, 0, none⟩) 20 20, .string s] w fun e w' => (∃ n : Int, e = .returned (.int .i64 n) ∧ (hitTo s 20 = true ↔ 0 ≤ n)) ∧ w = w' := by
  go_enter Tryd.func41, Tryd.ntmps41
  go_wp2
  go_loop [5] (fun i => ∃ k : Nat, k ≤ 20 ∧ i = .int .i64 k ∧ hitTo s k = false) (fun i => 20 - (intOf i).toNat)
  case atStart => exact ⟨0, by omega, rfl, rfl⟩
  case round =>
    obtain ⟨k, hk, rfl, hh⟩ := hrel
    by_cases hlt : k < 20
    · have hcell := hc k hlt
      clear hc
      have HH : Hid (hitTo s k = false) := hh
      clear hh
      go_wp2
      · go_ret
        exact ⟨⟨_, rfl, by
          have := hitTo_true s (k + 1) 20 (hit_yes s k ‹_›) (by omega)
          simp [this]⟩, rfl⟩
      · go_round
        case rel => exact ⟨k + 1, by omega, by go_num, hit_no s k HH.out ‹_›⟩
        case measure => simp [intOf]; omega
    · go_wp2
      go_ret
      exact ⟨⟨-1, rfl, by obtain rfl : k = 20 := by omega
                          simp [hh]⟩, rfl⟩

theorem below20 (k : Nat) (h : k < 20) : k = 0 ∨ k = 1 ∨ k = 2 ∨ k = 3 ∨ k = 4 ∨ k = 5 ∨ k = 6 ∨ k = 7 ∨ k = 8 ∨ k = 9 ∨ k = 10 ∨ k = 11 ∨ k = 12 ∨ k = 13 ∨ k = 14 ∨ k = 15 ∨ k = 16 ∨ k = 17 ∨ k = 18 ∨ k = 19 := by omega
theorem get_word (k : Nat) (hk : k < 20) : wordVals[k]? = some (.string (word k)) := by
  rcases below20 k hk with rfl | rfl | rfl | rfl | rfl | rfl | rfl | rfl | rfl | rfl | rfl | rfl | rfl | rfl | rfl | rfl | rfl | rfl | rfl | rfl <;> rfl
theorem index_word (k : Nat) (hk : k < 20) (w : World) : (Instr.index 93 (.agg wordVals) (.int .i64 (k : Int))).run Tryd.prog w = .ok (.string (word k)) w := by
  rcases below20 k hk with rfl | rfl | rfl | rfl | rfl | rfl | rfl | rfl | rfl | rfl | rfl | rfl | rfl | rfl | rfl | rfl | rfl | rfl | rfl | rfl <;> kernel_rfl

theorem fit_let (k : Nat) (x : Int) (h : letB x = true) : fitB k x = true := by simp [fitB, h]
theorem fit_word (k : Nat) (x : Int) (hk : 1 ≤ k) : fitB k x = wordB x := by
  have : decide (k ≠ 0) = true := by simp; omega
  rw [fitB, this, wordB]; rfl
theorem fit_first (x : Int) : fitB 0 x = letB x := by simp [fitB]
theorem okTo_yes (s : ByteArray) (k : Nat) (h : okTo s k = true) (hf : fitB k (bAt s k) = true) : okTo s (k + 1) = true := by simp [okTo, h, hf]
theorem okTo_no (s : ByteArray) (k : Nat) (hf : fitB k (bAt s k) = false) : okTo s (k + 1) = false := by simp [okTo, hf]

set_option maxHeartbeats 1000000 in
/-- THE PROGRAM's NameOk: whether a text is a name; the table (block 0) is read, nothing is written. -/
theorem impl_NameOk (s : ByteArray) (w : World) (hs : s.size ≤ maxLen) (t : TypeId) (fr : Nat × Nat) (hg : w.heap[0]? = some (.cells wordVals t fr)) :
    Calls Tryd.prog 56 #[.string s] w fun e w' => e = .returned (.bool (nameB s)) ∧ w = w' := by
  unfold maxLen at hs
  by_cases h1 : s.size < 1
  · go_enter Tryd.func56, Tryd.ntmps56
    go_wp2
    all_goals
      go_ret
      exact ⟨ret_bool (nameB_size s (by omega)).symm, rfl⟩
  by_cases h4 : 4 < s.size
  · go_enter Tryd.func56, Tryd.ntmps56
    go_wp2
    all_goals
      go_ret
      exact ⟨ret_bool (nameB_size s (by omega)).symm, rfl⟩
  have h0s : 0 < s.size := by omega
  have hb0 := bAt_eq s 0 h0s
  have hbd := bAt_bd s 0
  rw [hb0] at hbd
  have HB0 : Hid (bAt s 0 = (s[0].toNat : Int)) := hb0
  clear hb0
  cases hl : letB (s[0].toNat : Int)
  · go_enter Tryd.func56, Tryd.ntmps56
    go_wp2_with (go_at_call 61; refine (impl_isLetter _ _ (by omega) (by omega)).mono ?_; rintro e w' ⟨rfl, rfl⟩)
    go_ret
    exact ⟨ret_bool (nameB_ok s 1 (okTo_no s 0 (by rw [fit_first, HB0.out]; exact hl)) h0s).symm, rfl⟩
  · have HO : Hid (okTo s 1 = true) := okTo_yes s 0 rfl (by rw [fit_first, HB0.out]; exact hl)
    go_enter Tryd.func56, Tryd.ntmps56
    go_wp2_with (go_at_call 61; refine (impl_isLetter _ _ (by omega) (by omega)).mono ?_; rintro e w' ⟨rfl, rfl⟩)
    go_loop [3] (fun i => ∃ k : Nat, 1 ≤ k ∧ k ≤ s.size ∧ i = .int .i64 k ∧ okTo s k = true) (fun i => s.size - (intOf i).toNat)
    case atStart => exact ⟨1, by omega, by omega, rfl, HO.out⟩
    case round =>
      obtain ⟨k, hk1, hk, rfl, hok⟩ := hrel
      have HK : Hid (okTo s k = true) := hok
      clear hok
      by_cases hlt : k < s.size
      · have hbk := bAt_eq s k hlt
        have hbd2 := bAt_bd s k
        rw [hbk] at hbd2
        have HB : Hid (bAt s k = (s[k].toNat : Int)) := hbk
        clear hbk
        cases hw : wordB (s[k].toNat : Int)
        · go_wp2_with (go_at_call 62; refine (impl_isWordByte _ _ (by omega) (by omega)).mono ?_; rintro e w' ⟨rfl, rfl⟩)
          go_ret
          exact ⟨ret_bool (nameB_ok s (k + 1) (okTo_no s k (by rw [fit_word k _ hk1, HB.out]; exact hw)) hlt).symm, rfl⟩
        · go_wp2_with (go_at_call 62; refine (impl_isWordByte _ _ (by omega) (by omega)).mono ?_; rintro e w' ⟨rfl, rfl⟩)
          go_round
          case rel => exact ⟨k + 1, by omega, by omega, by go_num, okTo_yes s k HK.out (by rw [fit_word k _ hk1, HB.out]; exact hw)⟩
          case measure => simp [intOf]; omega
      · obtain rfl : k = s.size := by omega
        go_wp2_with (refine wpList_load_row rfl 93 _ rfl 0 rfl t _ fr _ hg Tryd.underlying93 rfl (by kernel_rfl) ?_)
        go_loop [32] (fun i => ∃ j : Nat, j ≤ 20 ∧ i = .int .i64 j ∧ hitTo s j = false) (fun i => 20 - (intOf i).toNat)
        case atStart => exact ⟨0, by omega, rfl, rfl⟩
        case round =>
          obtain ⟨j, hj, rfl, hh⟩ := hrel
          have HH : Hid (hitTo s j = false) := hh
          clear hh
          by_cases hlt2 : j < 20
          · have hix := index_word j hlt2
            go_wp2
            · go_ret
              exact ⟨ret_bool (nameB_hit s (j + 1) (hit_yes s j ‹_›) (by omega)).symm, rfl⟩
            · go_round
              case rel => exact ⟨j + 1, by omega, by go_num, hit_no s j HH.out ‹_›⟩
              case measure => simp [intOf]; omega
          · obtain rfl : j = 20 := by omega
            go_wp2
            go_ret
            exact ⟨ret_bool (nameB_yes s (by omega) (by omega) HK.out HH.out).symm, rfl⟩
theorem word_cells (w : World) (k : Nat) (hk : k < 20) : (w.alloc (.cells wordVals 9)).cell? ⟨w.heap.size, k, none⟩ = some (.string (word k)) := by
  have := get_word k hk
  unfold World.cell?
  rw [heap_alloc_new]
  exact this

theorem fit_no (k : Nat) (x : Int) (hl : letB x = false) (hf : k = 0 ∨ figB x = false) : fitB k x = false := by
  rcases hf with rfl | hf
  · simp [fitB, hl]
  · simp [fitB, hl, hf]
theorem fit_fig (k : Nat) (x : Int) (hk : k ≠ 0) (hf : figB x = true) : fitB k x = true := by
  simp [fitB, hk, hf]

theorem name_of_find (s : ByteArray) (n : Int) (hin : 1 ≤ s.size ∧ s.size ≤ 4) (hok : okTo s s.size = true) (hn : hitTo s 20 = true ↔ 0 ≤ n) : nameB s = decide (n < 0) := by
  by_cases h : 0 ≤ n
  · rw [nameB_hit s 20 (hn.2 h) (by omega)]; simp; omega
  · have hh : hitTo s 20 = false := by
      cases e : hitTo s 20
      · rfl
      · exact absurd (hn.1 e) h
    rw [nameB_yes s hin.1 hin.2 hok hh]; simp; omega
set_option maxHeartbeats 1000000 in
theorem spec_l1Name (s : ByteArray) (w : World) (hs : s.size ≤ maxLen) :
    Calls Tryd.prog 49 #[.string s] w fun e w' => e = .returned (.bool (nameB s)) ∧ (w = w' ∨ w' = w.alloc (.cells wordVals 9)) := by
  unfold maxLen at hs
  go_enter Tryd.func49, Tryd.ntmps49
  go_wp2
  go_loop [3] (fun i => ∃ k : Nat, k ≤ s.size ∧ i = .int .i64 k ∧ okTo s k = true) (fun i => s.size - (intOf i).toNat)
  case atStart => exact ⟨0, by omega, rfl, rfl⟩
  case round =>
    obtain ⟨k, hk, rfl, hok⟩ := hrel
    have HK : Hid (okTo s k = true) := hok
    clear hok
    by_cases hlt : k < s.size
    · have hbk := bAt_eq s k hlt
      have hbd2 := bAt_bd s k
      rw [hbk] at hbd2
      have HB : Hid (bAt s k = (s[k].toNat : Int)) := hbk
      clear hbk
      cases hl : letB (s[k].toNat : Int)
      · by_cases hk0 : k = 0
        · have HF : Hid (okTo s (k + 1) = false) := okTo_no s k (by rw [HB.out]; exact fit_no k _ hl (Or.inl hk0))
          have hk1 : ((k : Int) == 0) = true := by simp; omega
          clear hk0
          go_wp2_with (go_at_call 53; refine (spec_l1Letter _ _ (by omega) (by omega)).mono ?_; rintro e w' ⟨rfl, rfl⟩)
          go_ret
          exact ⟨ret_bool (nameB_ok s (k + 1) HF.out hlt).symm, Or.inl rfl⟩
        · have hk1 : ((k : Int) == 0) = false := by simp; omega
          cases hf : figB (s[k].toNat : Int)
          · have HF : Hid (okTo s (k + 1) = false) := okTo_no s k (by rw [HB.out]; exact fit_no k _ hl (Or.inr hf))
            go_wp2_with (first | (go_at_call 53; refine (spec_l1Letter _ _ (by omega) (by omega)).mono ?_; rintro e w' ⟨rfl, rfl⟩) | (go_at_call 54; refine (spec_l1Figure _ _ (by omega) (by omega)).mono ?_; rintro e w' ⟨rfl, rfl⟩))
            go_ret
            exact ⟨ret_bool (nameB_ok s (k + 1) HF.out hlt).symm, Or.inl rfl⟩
          · have HF : Hid (okTo s (k + 1) = true) := okTo_yes s k HK.out (by rw [HB.out]; exact fit_fig k _ hk0 hf)
            go_wp2_with (first | (go_at_call 53; refine (spec_l1Letter _ _ (by omega) (by omega)).mono ?_; rintro e w' ⟨rfl, rfl⟩) | (go_at_call 54; refine (spec_l1Figure _ _ (by omega) (by omega)).mono ?_; rintro e w' ⟨rfl, rfl⟩))
            go_round
            case rel => exact ⟨k + 1, by omega, by go_num, HF.out⟩
            case measure => simp [intOf]; omega
      · have HF : Hid (okTo s (k + 1) = true) := okTo_yes s k HK.out (by rw [HB.out]; exact fit_let k _ hl)
        go_wp2_with (go_at_call 53; refine (spec_l1Letter _ _ (by omega) (by omega)).mono ?_; rintro e w' ⟨rfl, rfl⟩)
        go_round
        case rel => exact ⟨k + 1, by omega, by go_num, HF.out⟩
        case measure => simp [intOf]; omega
    · obtain rfl : k = s.size := by omega
      by_cases hin : 1 ≤ s.size ∧ s.size ≤ 4
      · have hin1 : decide (1 ≤ (s.size : Int) ∧ (s.size : Int) ≤ 4) = true := by simp; omega
        go_wp2_with (first | (go_at_call 48; refine (spec_l1In _ _ _ _).mono ?_; rintro e w' ⟨rfl, rfl⟩; rw [hin1]) | (go_at_call 55; refine (spec_l1Words _).mono ?_; rintro e w' ⟨rfl, rfl⟩) | (go_at_call 41; refine (spec_l1Find _ s _ (word_cells _)).mono ?_; rintro e w' ⟨⟨n, rfl, hn⟩, rfl⟩))
        go_ret
        exact ⟨ret_bool (name_of_find s n hin HK.out hn).symm, Or.inr rfl⟩
      · have hin1 : decide (1 ≤ (s.size : Int) ∧ (s.size : Int) ≤ 4) = false := by simp; omega
        go_wp2_with (go_at_call 48; refine (spec_l1In _ _ _ _).mono ?_; rintro e w' ⟨rfl, rfl⟩; rw [hin1])
        go_ret
        exact ⟨ret_bool (nameB_size s hin).symm, Or.inl rfl⟩

end Go.Proofs.YtkjppjhmejkidaaDoor

namespace Go.Proofs.YtkjppjhmejkidaaDoor
open Go.RowKit

/-- The texts l lie in w as the slice v, in a block of their own from B on (or there are none, and no room). -/
def App (w : World) (B : Nat) (l : List ByteArray) (v : Value) : Prop := w.ownsRow B 9 1 v l.length (l.map .string) ∨ ∃ ad, v = .slice (some ad) 0 0 ∧ l = []
def Env (w : World) (l : List ByteArray) (v : Value) : Prop := App w 0 l v
theorem Env.nil (w : World) : Env w [] (.slice none 0 0) := Or.inl (World.ownsRow_nil w 0 _ 1)
theorem ownsRow_base {w : World} {B B' n : Nat} {e : TypeId} {v : Value} {xs : List Value} (h : w.ownsRow B e 1 v n xs) (hB : B' ≤ B) : w.ownsRow B' e 1 v n xs := by
  obtain ⟨h1, h2⟩ := h
  refine ⟨h1, ?_⟩
  rcases h2 with h2 | ⟨g, cap, cur, hv, hg, r⟩
  · exact Or.inl h2
  · exact Or.inr ⟨g, cap, cur, hv, by omega, r⟩
theorem ownsRow_keep {w w' : World} {B n : Nat} {e : TypeId} {v : Value} {xs : List Value} (h : w.ownsRow B e 1 v n xs) (hb : Below w.heap.size w w') : w'.ownsRow B e 1 v n xs := by
  obtain ⟨h1, h2⟩ := h
  refine ⟨h1, ?_⟩
  rcases h2 with h2 | ⟨g, cap, cur, hv, hg, hh, r⟩
  · exact Or.inl h2
  · exact Or.inr ⟨g, cap, cur, hv, hg, by rw [hb.block g (Array.getElem?_eq_some_iff.1 hh).1]; exact hh, r⟩
theorem App.base {w : World} {B B' : Nat} {l : List ByteArray} {v : Value} (h : App w B l v) (hB : B' ≤ B) : App w B' l v := by
  rcases h with h | h
  · exact Or.inl (ownsRow_base h hB)
  · exact Or.inr h
theorem App.keep {w w' : World} {B : Nat} {l : List ByteArray} {v : Value} (h : App w B l v) (hb : Below w.heap.size w w') : App w' B l v := by
  rcases h with h | h
  · exact Or.inl (ownsRow_keep h hb)
  · exact Or.inr h
theorem Env.keep {w w' : World} {l : List ByteArray} {v : Value} (h : Env w l v) (hb : Below w.heap.size w w') : Env w' l v := App.keep h hb
theorem Env.drew {w : World} {l : List ByteArray} {v : Value} (h : Env w l v) : Env w.drew l v := h
/-- The slice, and its texts. -/
theorem Env.open {w : World} {l : List ByteArray} {v : Value} (h : Env w l v) : ∃ a cap, v = .slice a l.length cap ∧ (∀ (j : Nat) (hj : j < l.length), ∃ g, a = some ⟨g, 0, none⟩ ∧ w.cell? ⟨g, j, none⟩ = some (.string l[j])) := by
  rcases h with h | ⟨ad, rfl, rfl⟩
  · have h0 := h
    obtain ⟨_, h2⟩ := h
    rcases h2 with ⟨rfl, hn⟩ | ⟨g, cap, cur, rfl, hg, hh, r⟩
    · exact ⟨none, 0, by rw [hn], fun j hj => by omega⟩
    · refine ⟨some ⟨g, 0, none⟩, cap, rfl, fun j hj => ⟨g, rfl, ?_⟩⟩
      have := World.ownsRow.cellAt h0 j (by omega)
      rw [this]; simp [hj]
  · exact ⟨some ad, 0, rfl, fun j hj => by simp at hj⟩

/-- Where a text stands last among the first k; -1 if nowhere. -/
def lastTo (l : List ByteArray) (s : ByteArray) : Nat → Int
  | 0 => -1
  | k + 1 => if (l.getD k ⟨#[]⟩).toList == s.toList then k else lastTo l s k
theorem lastTo_bd (l : List ByteArray) (s : ByteArray) : ∀ k, -1 ≤ lastTo l s k ∧ lastTo l s k < k
  | 0 => by simp [lastTo]
  | k + 1 => by
    have := lastTo_bd l s k
    rw [lastTo]; split <;> omega
theorem lastTo_yes (l : List ByteArray) (s : ByteArray) (k : Nat) (hk : k < l.length) (h : (l[k].toList == s.toList) = true) : lastTo l s (k + 1) = k := by
  rw [lastTo, if_pos (by simpa [List.getD, hk] using h)]
theorem lastTo_no (l : List ByteArray) (s : ByteArray) (k : Nat) (hk : k < l.length) (h : (l[k].toList == s.toList) = false) : lastTo l s (k + 1) = lastTo l s k := by
  rw [lastTo, if_neg (by simpa [List.getD, hk] using h)]

set_option maxHeartbeats 400000 in
theorem impl_lastPlace (l : List ByteArray) (s : ByteArray) (v : Value) (w : World) (hl : l.length ≤ 1000000) (hv : Env w l v) :
    Calls Tryd.prog 31 #[v, .string s] w fun r w' => r = .returned (.int .i64 (lastTo l s l.length)) ∧ w = w' := by
  obtain ⟨a, cap, rfl, hcell⟩ := hv.open
  go_enter Tryd.func31, Tryd.ntmps31
  go_wp2_with fail
  go_loop [5] (fun i => ∃ k : Nat, k ≤ l.length ∧ i = .int .i64 ((k : Int) - 1) ∧ Hid (lastTo l s l.length = lastTo l s k)) (fun i => (intOf i + 1).toNat)
  case atStart => exact ⟨l.length, Nat.le_refl _, rfl, rfl⟩
  case round =>
    obtain ⟨k, hk, rfl, HK⟩ := hrel
    by_cases hz : k = 0
    · subst hz
      go_wp2_with fail
      go_ret
      exact ⟨ret_int HK.out.symm, rfl⟩
    · obtain ⟨j, rfl⟩ : ∃ j, k = j + 1 := ⟨k - 1, by omega⟩
      obtain ⟨g, rfl, hc⟩ := hcell j (by omega)
      have hj : ((j + 1 : Nat) : Int) - 1 = (j : Int) := by omega
      rw [hj]
      go_wp2_with fail
      · go_ret
        exact ⟨ret_int (by rw [HK.out, lastTo_yes l s j (by omega) ‹_›]), rfl⟩
      · go_round
        case rel => exact ⟨j, by omega, rfl, by show _ = _; rw [HK.out, lastTo_no l s j (by omega) ‹_›]⟩
        case measure => simp [intOf]
end Go.Proofs.YtkjppjhmejkidaaDoor

