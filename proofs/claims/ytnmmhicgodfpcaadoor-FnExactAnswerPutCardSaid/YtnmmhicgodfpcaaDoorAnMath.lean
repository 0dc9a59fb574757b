/-
  An answer as plain data, and its text.
-/
import Derived.Test.YtnmmhicgodfpcaaDoorAnInt
import Derived.Test.YtnmmhicgodfpcaaDoorHtDecA
namespace Go.Proofs.YtnmmhicgodfpcaaDoor
open Go.RowKit

/-- An answer: what was told (process and number, as a word), ends, how much was left. -/
structure An where
  outs : List Wd
  ends : List Int
  boxes : List Int
structure An.Ok (a : An) : Prop where
  o : ∀ x ∈ a.outs, In64 x.tag ∧ In64 x.num
  e : ∀ x ∈ a.ends, In64 x
  b : ∀ x ∈ a.boxes, In64 x
def toldT (x : Wd) : List UInt8 := [32] ++ Lib.itoa x.tag ++ [58] ++ Lib.itoa x.num
def intT (n : Int) : List UInt8 := [32] ++ Lib.itoa n
def outsB : List UInt8 := [111, 117, 116, 115]
def endsB : List UInt8 := [10, 101, 110, 100, 115]
def leftB : List UInt8 := [10, 108, 101, 102, 116]
def ansT (a : An) : List UInt8 := outsB ++ a.outs.flatMap toldT ++ endsB ++ a.ends.flatMap intT ++ leftB ++ a.boxes.flatMap intT ++ [10]
theorem told_len {x : Wd} (h : In64 x.tag ∧ In64 x.num) : (toldT x).length ≤ 42 := by
  have := itoa_len x.tag h.1
  have := itoa_len x.num h.2
  simp [toldT]; omega
theorem int_len {n : Int} (h : In64 n) : (intT n).length ≤ 42 := by
  have := itoa_len n h
  simp [intT]; omega
theorem flat_len {α : Type} {f : α → List UInt8} : ∀ (l : List α), (∀ x ∈ l, (f x).length ≤ 42) → (l.flatMap f).length ≤ 42 * l.length
  | [], _ => by simp
  | x :: l, h => by
    have h1 := h x (by simp)
    have h2 := flat_len l (fun y hy => h y (by simp [hy]))
    rw [List.flatMap_cons, List.length_append, List.length_cons]
    omega
theorem take_len {α : Type} {f : α → List UInt8} (l : List α) (k : Nat) (h : ∀ x ∈ l, (f x).length ≤ 42) : ((l.take k).flatMap f).length ≤ 42 * l.length := by
  have h1 := flat_len (f := f) (l.take k) (fun x hx => h x (List.mem_of_mem_take hx))
  have h2 : (l.take k).length ≤ l.length := by rw [List.length_take]; omega
  omega
theorem take_flat {α : Type} {f : α → List UInt8} (l : List α) (k : Nat) (h : k < l.length) : (l.take (k + 1)).flatMap f = (l.take k).flatMap f ++ f l[k] := by
  rw [List.take_succ_eq_append_getElem h, List.flatMap_append]
  simp
theorem told_bytes (x : Wd) : (⟨#[32]⟩ : ByteArray) ++ bx (Lib.itoa x.tag) ++ ⟨#[58]⟩ ++ bx (Lib.itoa x.num) = bx (toldT x) := by
  show bx [32] ++ bx _ ++ bx [58] ++ bx _ = _
  rw [bx_app, bx_app, bx_app]
  rfl
theorem int_bytes (n : Int) : (⟨#[32]⟩ : ByteArray) ++ bx (Lib.itoa n) = bx (intT n) := by
  show bx [32] ++ bx _ = _
  rw [bx_app]
  rfl
/-- An answer lies in w as three rows. -/
structure AnAt (w : World) (S : Nat → Prop) (a : An) (s0 s1 s2 : Value) : Prop where
  o : Words w S a.outs s0
  e : Ints w S a.ends s1
  b : Ints w S a.boxes s2
end Go.Proofs.YtnmmhicgodfpcaaDoor
