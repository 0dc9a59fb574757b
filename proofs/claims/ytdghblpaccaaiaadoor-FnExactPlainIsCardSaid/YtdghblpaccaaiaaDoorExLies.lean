/-
  Expressions as plain data, and what it is that an expression lies in memory: a value of five cells, its parts in a row of a block. No program is named here.
-/
import Derived.Below
import Derived.Deep.MidRow
namespace Go.Proofs.YtdghblpaccaaiaaDoor
open Go.RowKit

/-- An expression: its kind, its names, its number, its parts. -/
inductive Ex where
  | mk (kind : Int) (name tail : ByteArray) (num : Int) (kids : List Ex)

def Ex.kind : Ex → Int | .mk k _ _ _ _ => k
def Ex.name : Ex → ByteArray | .mk _ n _ _ _ => n
def Ex.tail : Ex → ByteArray | .mk _ _ t _ _ => t
def Ex.num : Ex → Int | .mk _ _ _ u _ => u
def Ex.kids : Ex → List Ex | .mk _ _ _ _ ks => ks

theorem Ex.ind {p : Ex → Prop} (h : ∀ e : Ex, (∀ x ∈ e.kids, p x) → p e) : ∀ e, p e
  | .mk k n t u ks => h (.mk k n t u ks) fun x _hx => Ex.ind h x
termination_by e => SizeOf.sizeOf e
decreasing_by
  have hx1 : x ∈ ks := _hx
  have := List.sizeOf_lt_of_mem hx1
  simp; omega

/-- The five cells of an expression whose parts are the slice s. -/
def Ex.cells (e : Ex) (s : Value) : List Value := [.int .i64 e.kind, .string e.name, .string e.tail, .int .i64 e.num, s]
/-- Its value. -/
abbrev Ex.val (e : Ex) (s : Value) : Value := .agg #[.int .i64 e.kind, .string e.name, .string e.tail, .int .i64 e.num, s]

/-- The parts es lie in w as the slice value v, in blocks of which S holds. -/
inductive Lies (w : World) (S : Nat → Prop) : List Ex → Value → Prop
  | none (a : Option Addr) (cap : Nat) : Lies w S [] (.slice a 0 cap)
  | some (b off cap : Nat) (es : List Ex) (ss : List Value) (hb : S b) (hl : ss.length = es.length)
      (hc : ∀ (i : Nat) (e : Ex) (s : Value), es[i]? = Option.some e → ss[i]? = Option.some s → w.rangeAt b (off + i * 5) (e.cells s))
      (hk : ∀ (i : Nat) (e : Ex) (s : Value), es[i]? = Option.some e → ss[i]? = Option.some s → Lies w S e.kids s) :
      Lies w S es (.slice (Option.some ⟨b, off, Option.none⟩) es.length cap)

theorem rangeAt_same {w w' : World} {b o : Nat} {cs : List Value} (hs : w'.heap[b]? = w.heap[b]?) (h : w.rangeAt b o cs) : w'.rangeAt b o cs :=
  fun j v hv => by rw [← h j v hv]; exact World.cell?_of_block (w := w) hs

/-- The five cells, one by one. -/
theorem Ex.five {w : World} {b o : Nat} {e : Ex} {s : Value} (h : w.rangeAt b o (e.cells s)) :
    w.cell? ⟨b, o, none⟩ = some (.int .i64 e.kind) ∧ w.cell? ⟨b, o + 1, none⟩ = some (.string e.name) ∧ w.cell? ⟨b, o + 2, none⟩ = some (.string e.tail) ∧ w.cell? ⟨b, o + 3, none⟩ = some (.int .i64 e.num) ∧ w.cell? ⟨b, o + 4, none⟩ = some s :=
  ⟨h 0 _ rfl, h 1 _ rfl, h 2 _ rfl, h 3 _ rfl, h 4 _ rfl⟩

theorem Lies.same {w w' : World} {S S' : Nat → Prop} {es : List Ex} {v : Value} (h : Lies w S es v) (hs : ∀ b, S b → w'.heap[b]? = w.heap[b]? ∧ S' b) : Lies w' S' es v := by
  induction h with
  | none a cap => exact .none a cap
  | some b off cap es ss hb hl hc hk ih => exact .some b off cap es ss (hs b hb).2 hl (fun i e s h1 h2 => rangeAt_same (hs b hb).1 (hc i e s h1 h2)) ih

/-- What lies below B lies there where nothing below B has turned. -/
theorem Lies.keep {w w' : World} {B B' : Nat} {es : List Ex} {v : Value} (h : Lies w (· < B) es v) (hb : Below B w w') (hB : B ≤ B') : Lies w' (· < B') es v :=
  h.same fun b hlt => ⟨hb.block b hlt, Nat.lt_of_lt_of_le hlt hB⟩

/-- The slice that holds parts: its length is theirs. -/
theorem Lies.slice {w : World} {S : Nat → Prop} {es : List Ex} {v : Value} (h : Lies w S es v) : ∃ a cap, v = .slice a es.length cap := by
  cases h with
  | none a cap => exact ⟨a, cap, rfl⟩
  | some b off cap es ss _ _ _ _ => exact ⟨_, cap, rfl⟩

/-- The part at a place: where it lies, and its own parts. -/
theorem Lies.at {w : World} {S : Nat → Prop} {es : List Ex} {v : Value} (h : Lies w S es v) {i : Nat} {e : Ex} (hi : es[i]? = Option.some e) :
    ∃ b off cap s, S b ∧ v = .slice (Option.some ⟨b, off, Option.none⟩) es.length cap ∧ w.rangeAt b (off + i * 5) (e.cells s) ∧ Lies w S e.kids s := by
  cases h with
  | none a cap => simp at hi
  | some b off cap es ss hb hl hc hk =>
    obtain ⟨hlt, _⟩ := List.getElem?_eq_some_iff.1 hi
    have h2 : ss[i]? = Option.some ss[i] := List.getElem?_eq_getElem (by omega)
    exact ⟨b, off, cap, ss[i], hb, rfl, hc i e _ hi h2, hk i e _ hi h2⟩

/-- Texts and lists of it are no longer than any can be. -/
inductive Ex.Fit : Ex → Prop
  | mk (e : Ex) (hn : e.name.size ≤ maxLen) (ht : e.tail.size ≤ maxLen) (hk : e.kids.length ≤ maxLen) (h : ∀ x ∈ e.kids, Ex.Fit x) : Ex.Fit e

/-- No list of it is longer than the law lets by. -/
inductive Ex.Wee : Ex → Prop
  | mk (e : Ex) (hk : e.kids.length ≤ 1048576) (h : ∀ x ∈ e.kids, Ex.Wee x) : Ex.Wee e

end Go.Proofs.YtdghblpaccaaiaaDoor
