/-
  What can be read as words is a row of them.
-/
import Derived.Test.YtdgfmjakbemhgaaCeOpen
import Derived.Test.YtdgfmjakbemhgaaWdRow
namespace Go.Proofs.Ytdgfmjakbemhgaa
open Go.ChangeShapes Go.WideShapes Go.ChangeAt Go.RowKit

instance : Inhabited Wd := ⟨⟨0, 0⟩⟩
theorem open_words {H : Type} {enc : TypeId × Value → H} {W : World} {base b0 : Nat} {sp : Nat → Bool} {held : Bool} {v : Value} {d : DataW H} {p : List MemPlace} (hok : Value.okWide Try.prog W .any b0 23 v) (h : DataW.Trod enc Try.prog W base sp held 23 v d p) :
    ∃ ws : List Wd, Words W (· < W.heap.size) ws v ∧ ws.length ≤ maxLen := by
  obtain ⟨fuel, hf⟩ := h
  obtain ⟨a, len, cap, rfl⟩ := okWide_slice Try.underlying23 hok
  obtain ⟨l, s, hs, hr, hl⟩ := open_row (f := Wd.cells) Try.underlying23 ceWord (by omega) (fun x => ⟨x.tag, _, rfl⟩) open_word hf
  have hs' : [Value.slice a len cap] = [s] := hs
  obtain rfl : Value.slice a len cap = s := by simpa using hs'
  exact ⟨l, hr, hl⟩
end Go.Proofs.Ytdgfmjakbemhgaa
