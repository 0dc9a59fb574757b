/-
  Small things of numbers and texts.
-/
import Derived.WalkKit
import Derived.WalkSpells
namespace Go.Proofs.Ytndpioniobhbmaa
open Go.RowKit

theorem ck_wr (z : Int) (h1 : -9223372036854775808 ≤ z) (h2 : z < 9223372036854775808) : IntKind.i64.wrap z = z := by
  simp [IntKind.wrap, IntKind.bits, IntKind.signed]
  omega
end Go.Proofs.Ytndpioniobhbmaa
