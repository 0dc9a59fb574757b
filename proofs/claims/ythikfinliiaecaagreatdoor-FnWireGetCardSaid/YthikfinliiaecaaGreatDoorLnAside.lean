/-
  A range over the lines of a text whose body appends: what stands aside; strings.Lines.
-/
import Derived.Test.YthikfinliiaecaaGreatDoorFgAll36
import Derived.Deep.RegionHeld3
namespace Go.Proofs.YthikfinliiaecaaGreatDoor
open Go.RowKit Go.Shelf
attribute [local go_sem] Oper.semAt_some

theorem own_aside {s d n sz : Nat} {A B : World} {e : TypeId} {v : Value} {xs : List Value} (h : A.ownsRow (d + 2) e sz v n xs) (hs : s < d) (ha : Aside s d A B) : B.ownsRow (d + 2) e sz v n xs := by
  obtain ⟨h1, ⟨h2, h3⟩ | ⟨g, cap, cur, rfl, hg, hh, r⟩⟩ := h
  · exact ⟨h1, Or.inl ⟨h2, h3⟩⟩
  · exact ⟨h1, Or.inr ⟨g, cap, cur, rfl, hg, by rw [ha.block g (Array.getElem?_eq_some_iff.1 hh).1 (by omega) (by omega) (by omega)]; exact hh, r⟩⟩
theorem below_aside {b s d : Nat} {w A B : World} (h : Below b w A) (hs : b ≤ s) (hd : b ≤ d) (hA : b ≤ A.heap.size) (ha : Aside s d A B) : Below b w B :=
  ⟨ha.os.trans h.os, ha.tape.trans h.tape, ha.output.trans h.output, Nat.le_trans h.size ha.size, fun k hk => (ha.block k (by omega) (by omega) (by omega) (by omega)).trans (h.block k hk)⟩
set_option maxHeartbeats 1000000 in
theorem lines_new (t : ByteArray) (w : World) : Calls Tryz.prog 18 #[.string t] w fun r w' => r = .returned (.func (.func 43) #[] #[.pointer (some ⟨w.heap.size, 0, none⟩)]) ∧ w' = w.alloc (.cells #[.string t] 9) := by
  go_enter Tryz.func18, Tryz.ntmps18
  go_wp2_with fail
  go_ret
  exact ⟨rfl, rfl⟩
theorem op_append_in {F : Fence} {n : Nat} {P : Program} {o : Oper} {a : Act} {w w' : World} {K : Act → World → Prop} {Q : Exit → Act → World → Prop} {s x : Operand} {t : TypeId} {v v' sl : Value} (hop : o.op = Op.call { callee := Callee.builtin Builtin.append, args := #[s, x], argTypes := #[t, t] })
    (hs : a.eval s = v) (hx : a.eval x = sl) (hrun : (Builtin.append_ #[t, t] o.type #[v, sl]).run P w = .ok v' w') (hK : K (a.put o.dst v') w') : o.wpIn F n P a w K Q := by
  refine ⟨by simp [Oper.about, hop, resolve, Target.leads, Sem.run_pure], ?_⟩
  rw [Oper.semAt_plain F _ _ (by rw [hop]; intro c hc; cases hc)]
  simp [execOp, hop, resolve, invoke, builtin, hs, hx, hrun, Result.andThen]
  exact hK
theorem below_put {b d : Nat} {w A : World} (h : Below b w A) (hd : b ≤ d) (o : Obj) : Below b w (A.putObj d o) :=
  ⟨h.os, h.tape, h.output, by simp; exact h.size, fun k hk => (World.putObj_heap_other (by omega)).trans (h.block k hk)⟩
theorem own_put {A : World} {b d n sz : Nat} {e : TypeId} {v : Value} {xs : List Value} (h : A.ownsRow b e sz v n xs) {ds : Option (List Deferred)} (hd : A.heap[d]? = some (.deferred ds)) (o : Obj) : (A.putObj d o).ownsRow b e sz v n xs := by
  obtain ⟨h1, ⟨h2, h3⟩ | ⟨g, cap, cur, rfl, hg, hh, r⟩⟩ := h
  · exact ⟨h1, Or.inl ⟨h2, h3⟩⟩
  · exact ⟨h1, Or.inr ⟨g, cap, cur, rfl, hg, by rw [World.putObj_heap_other (fun e => by subst e; rw [hh] at hd; cases hd)]; exact hh, r⟩⟩
end Go.Proofs.YthikfinliiaecaaGreatDoor

