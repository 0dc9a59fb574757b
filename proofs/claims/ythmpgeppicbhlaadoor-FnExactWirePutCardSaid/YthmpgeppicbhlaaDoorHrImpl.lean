/-
  HeapReach: the program's.
-/
import Derived.Test.YthmpgeppicbhlaaDoorHrMath
import Derived.Test.YthmpgeppicbhlaaDoorWlOn
import Derived.Test.YthmpgeppicbhlaaDoorWlWords
namespace Go.Proofs.YthmpgeppicbhlaaDoor
open Go.RowKit

theorem inInfo : (Tryd.prog.info? 3).map (fun i => (i.zero, i.size, i.bytes)) = some (some (.int .i64 0), 1, 8) := by kernel_rfl
/-- How a function ends that answers places. -/
def ReachR (w w' : World) (l : List Nat) (r : Ending) : Prop := ∃ v, r = .returned v ∧ w'.ownsRow w.heap.size 3 1 v l.length (natsV l) ∧ Below w.heap.size w w'
/-- What HeapReach answers. -/
def reachM (cs : List Ce) (ws : List Wd) : List Nat := if heapM cs = true ∧ wordsM cs.length ws = true then takenM (inM (copyS cs [] ws)) else []
theorem nats_snoc {w : World} {B k n : Nat} {l : List Nat} {v : Value} (hn : l.length + 1 = n) (h : w.ownsRow B 3 1 v n (natsV l ++ [.int .i64 (k : Int)])) : w.ownsRow B 3 1 v (l ++ [k]).length (natsV (l ++ [k])) := by
  rw [List.length_append, show l.length + [k].length = n from hn]
  simpa [natsV] using h

theorem loop_mv (cs : List Ce) (hrefs : ∀ c ∈ cs, refOk cs.length c.a ∧ refOk cs.length c.b) : ∀ (n : Nat) (s : St) (b i : Nat), Inv cs b i s → (loopS cs n s i).mv.length = cs.length
  | 0, s, _, _, h => h.len
  | n + 1, s, b, i, h => by
    rw [loopS]
    split
    · rename_i hi; exact loop_mv cs hrefs n _ b _ (h.step hrefs hi)
    · exact h.len

end Go.Proofs.YthmpgeppicbhlaaDoor
