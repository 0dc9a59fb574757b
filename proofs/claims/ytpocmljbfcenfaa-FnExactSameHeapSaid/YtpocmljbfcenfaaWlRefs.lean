/-
  Words and cells that are ok lead to cells.
-/
import Derived.Test.YtpocmljbfcenfaaWlMath
import Derived.Test.YtpocmljbfcenfaaHoImplB
import Derived.Test.YtpocmljbfcenfaaHoSpec
namespace Go.Proofs.Ytpocmljbfcenfaa
open Go.RowKit

theorem ref_of_word {n : Nat} {d : Wd} (h : wordP n d.tag d.num) : refOk n d := fun ht => by
  unfold wordP at h
  omega
theorem heap_refs {cs : List Ce} (h : heapM cs = true) : cs.length ≤ 120 ∧ ∀ c ∈ cs, refOk cs.length c.a ∧ refOk cs.length c.b := by
  rw [heapM, Bool.and_eq_true, List.all_eq_true] at h
  refine ⟨of_decide_eq_true h.1, fun c hc => ?_⟩
  have := of_decide_eq_true (h.2 c hc)
  unfold cellQ at this
  exact ⟨ref_of_word this.1, ref_of_word this.2.1⟩
theorem hc_next {w w2 w3 : World} (h1 : Below w.heap.size w w2) (h2 : Below w2.heap.size w2 w3) : Below w.heap.size w w3 := h1.trans (h2.mono h1.size)
end Go.Proofs.Ytpocmljbfcenfaa
