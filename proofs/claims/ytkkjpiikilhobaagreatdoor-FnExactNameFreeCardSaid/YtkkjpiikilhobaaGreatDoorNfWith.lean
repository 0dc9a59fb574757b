/-
  Lists of names, ascending: the specification's l3With.
-/
import Derived.Test.YtkkjpiikilhobaaGreatDoorNkStep
namespace Go.Proofs.YtkkjpiikilhobaaGreatDoor
open Go.RowKit

theorem run_append_src (ty : TypeId) (w : World) (B : Nat) (l m : List ByteArray) (v : Value) (ad2 : Addr) (c : Nat) (hv : App w B l v) (hc : ∀ j u, (m.map Value.string)[j]? = some u → w.cell? (ad2.add j) = some u) (hl : l.length ≤ 2000000) (hm : m.length ≤ 2000000) (hB : B ≤ w.heap.size) :
    ∃ v' w', (Builtin.append_ #[26, 26] ty #[v, .slice (some ad2) m.length c]).run Tryz.prog w = .ok v' w' ∧ App w' B (l ++ m) v' ∧ Below B w w' := by
  obtain ⟨i0, hi, hz0, hz1, hz2⟩ := strInfo'
  rcases hv with h | ⟨ad, rfl, rfl⟩
  · obtain ⟨v', w', hr, h2, h3, _⟩ := run_append_own (P := Tryz.prog) w B 26 ty 9 i0 (.string ⟨#[]⟩) 1 16 Tryz.underlying26 hi hz0 hz1 hz2 rfl (by decide) v l.length (l.map .string) h ad2 m.length c (m.map .string) (by simp) hc (strs_one m) (by unfold maxLen; omega) (by omega) hB
    exact ⟨v', w', hr, own_append h2, (Below.refl _ _).grown h3 hB (fun k hk => (h.lt k hk).1)⟩
  · cases m with
    | nil => exact ⟨_, w, run_append_empty ty ad ad2 c w, Or.inr ⟨ad, rfl, rfl⟩, Below.refl _ _⟩
    | cons s m =>
      obtain ⟨v', w', hr, h2, h3⟩ := run_append_arg_grows (P := Tryz.prog) w 26 ty 9 i0 (.string ⟨#[]⟩) 1 16 Tryz.underlying26 hi hz0 hz1 hz2 rfl (by decide) ad 0 0 [] rfl (fun j u hj => by simp at hj) ad2 (s :: m).length c ((s :: m).map .string) (by simp) hc (by simp) (by unfold maxLen; omega) (by omega)
      exact ⟨v', w', hr, App.base (own_append (l := []) (by simpa using h2)) hB, (Below.refl _ _).grown h3 hB (fun k hk => by cases hk)⟩

theorem wpList_append_app {ops : Array Oper} {rest : List Oper} {o : Oper} {a : Act} {w : World} {Q : Exit → Act → World → Prop} (hgd : o.guard = none) (s x : Operand)
    (ho : o.op = .call { callee := .builtin .append, args := #[s, x], argTypes := #[26, 26] })
    (B : Nat) (l m : List ByteArray) (v : Value) (hs : a.eval s = v) (hv : App w B l v) (ad : Addr) (c : Nat) (hx : a.eval x = .slice (some ad) m.length c)
    (hc : ∀ j u, (m.map Value.string)[j]? = some u → w.cell? (ad.add j) = some u) (hl : l.length ≤ 2000000) (hm : m.length ≤ 2000000) (hB : B ≤ w.heap.size)
    (h : ∀ v' w', App w' B (l ++ m) v' → Below B w w' → wpList Tryz.prog ops Q rest (a.put o.dst v') w') : wpList Tryz.prog ops Q (o :: rest) a w :=
  wpList_plain hgd fun K hK => by
    obtain ⟨v', w', hr, h2, h3⟩ := run_append_src o.type w B l m v ad c hv hc hl hm hB
    unfold Oper.wp execOp
    simp only [ho, resolve, invoke, builtin, Sem.run_bind, Sem.run_pure, Result.andThen_ok, List.map_toArray, List.map_cons, List.map_nil, hs, hx, hr]
    exact hK _ _ (h v' w' h2 h3)

/-- The order of names. -/
def lessB (a b : ByteArray) : Bool := Op.bytesLess a.toList b.toList
/-- A list of names with one more. -/
def withM : List ByteArray → ByteArray → List ByteArray
  | [], s => [s]
  | x :: xs, s => if lessB x s then x :: withM xs s else if x.toList == s.toList then x :: xs else s :: x :: xs
theorem withM_drop (l : List ByteArray) (s : ByteArray) (k : Nat) (hk : k < l.length) (h : withM l s = l.take k ++ withM (l.drop k) s) (hl : lessB l[k] s = true) : withM l s = l.take (k + 1) ++ withM (l.drop (k + 1)) s := by
  rw [h, List.drop_eq_getElem_cons hk, withM, if_pos hl, List.take_succ_eq_append_getElem hk, List.append_assoc]; rfl
theorem withM_eq (l : List ByteArray) (s : ByteArray) (k : Nat) (hk : k < l.length) (h : withM l s = l.take k ++ withM (l.drop k) s) (hl : lessB l[k] s = false) (he : (l[k].toList == s.toList) = true) : withM l s = l := by
  rw [h, List.drop_eq_getElem_cons hk, withM, if_neg (by simp [hl]), if_pos he, ← List.drop_eq_getElem_cons hk, List.take_append_drop]
theorem withM_new (l : List ByteArray) (s : ByteArray) (k : Nat) (hk : k < l.length) (h : withM l s = l.take k ++ withM (l.drop k) s) (hl : lessB l[k] s = false) (he : (l[k].toList == s.toList) = false) : withM l s = l.take k ++ [s] ++ l.drop k := by
  rw [h, List.drop_eq_getElem_cons hk, withM, if_neg (by simp [hl]), if_neg (by simp [he]), List.append_assoc]; rfl
theorem withM_end (l : List ByteArray) (s : ByteArray) (k : Nat) (hk : l.length ≤ k) (h : withM l s = l.take k ++ withM (l.drop k) s) : withM l s = l ++ [s] := by
  rw [h, List.drop_eq_nil_of_le hk, List.take_of_length_le hk, withM]

theorem withM_length (l : List ByteArray) (s : ByteArray) : (withM l s).length ≤ l.length + 1 := by
  induction l with
  | nil => simp [withM]
  | cons x xs ih =>
    rw [withM]
    split
    · simp; omega
    · split <;> simp

theorem wpList_append_nil {ops : Array Oper} {rest : List Oper} {o : Oper} {a : Act} {w : World} {Q : Exit → Act → World → Prop} (hgd : o.guard = none) (s x : Operand)
    (ho : o.op = .call { callee := .builtin .append, args := #[s, x], argTypes := #[26, 26] })
    (v : Value) (hs : a.eval s = v) (hv : (∃ ad n cap, v = .slice (some ad) n cap ∧ n ≤ cap) ∨ v = .slice none 0 0) (hx : a.eval x = .slice none 0 0)
    (h : wpList Tryz.prog ops Q rest (a.put o.dst v) w) : wpList Tryz.prog ops Q (o :: rest) a w :=
  wpList_plain hgd fun K hK => by
    have hr := run_append_none o.type v w hv
    unfold Oper.wp execOp
    simp only [ho, resolve, invoke, builtin, Sem.run_bind, Sem.run_pure, Result.andThen_ok, List.map_toArray, List.map_cons, List.map_nil, hs, hx, hr]
    exact hK _ _ h
theorem App.room {w : World} {B : Nat} {l : List ByteArray} {v : Value} (h : App w B l v) : (∃ ad n cap, v = .slice (some ad) n cap ∧ n ≤ cap) ∨ v = .slice none 0 0 := by
  rcases h with h | ⟨ad, rfl, _⟩
  · obtain ⟨_, ⟨rfl, _⟩ | ⟨g, cap, cur, rfl, _, _, hn, _⟩⟩ := h
    · exact Or.inr rfl
    · exact Or.inl ⟨_, _, _, rfl, hn⟩
  · exact Or.inl ⟨_, _, _, rfl, Nat.le_refl _⟩
theorem one_cell_new (w : World) (s : ByteArray) : ∀ j u, ([s].map Value.string)[j]? = some u → (w.alloc (.cells #[.string s] 9)).cell? ((⟨w.heap.size, 0, none⟩ : Addr).add j) = some u := cell_one_new _ _ _

end Go.Proofs.YtkkjpiikilhobaaGreatDoor
