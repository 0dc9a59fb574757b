/-
  Plain mathematics of names: which texts are names, said byte by byte; no program is named here.
-/
import Derived.LaidLaws
import Derived.ChangeArms
import Derived.OpenShut
namespace Go.Proofs.YthmpgeppicbhlaaDoor

/-- The byte at a place, as a number; 0 past the end. -/
def bAt (s : ByteArray) (k : Nat) : Int := if h : k < s.size then (s[k].toNat : Int) else 0
theorem bAt_eq (s : ByteArray) (k : Nat) (h : k < s.size) : bAt s k = (s[k].toNat : Int) := by simp [bAt, h]
theorem bAt_bd (s : ByteArray) (k : Nat) : 0 ≤ bAt s k ∧ bAt s k ≤ 255 := by
  unfold bAt
  split
  · rename_i h; have := s[k].toNat_lt; omega
  · omega

def letB (x : Int) : Bool := decide (97 ≤ x ∧ x ≤ 122)
def figB (x : Int) : Bool := decide (48 ≤ x ∧ x ≤ 57)
def wordB (x : Int) : Bool := letB x || figB x
/-- Whether the byte x may stand at place k of a name. -/
def fitB (k : Nat) (x : Int) : Bool := letB x || (decide (k ≠ 0) && figB x)
/-- Whether the first k bytes may stand where they do. -/
def okTo (s : ByteArray) : Nat → Bool
  | 0 => true
  | k + 1 => okTo s k && fitB k (bAt s k)
theorem okTo_false (s : ByteArray) (k n : Nat) (h : okTo s k = false) (hkn : k ≤ n) : okTo s n = false := by
  induction n with
  | zero => obtain rfl : k = 0 := by omega
            exact h
  | succ n ih =>
    by_cases e : k = n + 1
    · subst e; exact h
    · simp [okTo, ih (by omega)]

/-- The words that are no names. -/
def words : List ByteArray := [⟨#[102, 117, 110]⟩, ⟨#[108, 101, 116]⟩, ⟨#[114, 101, 99]⟩, ⟨#[105, 110]⟩, ⟨#[105, 102]⟩, ⟨#[116, 104, 101, 110]⟩, ⟨#[101, 108, 115, 101]⟩, ⟨#[99, 97, 115, 101]⟩, ⟨#[111, 102]⟩, ⟨#[110, 105, 108]⟩, ⟨#[102, 115, 116]⟩, ⟨#[115, 110, 100]⟩, ⟨#[116, 114, 117, 101]⟩, ⟨#[102, 97, 108, 115, 101]⟩, ⟨#[115, 112, 97, 119, 110]⟩, ⟨#[115, 101, 110, 100]⟩, ⟨#[115, 101, 108, 102]⟩, ⟨#[114, 101, 99, 118]⟩, ⟨#[111, 117, 116]⟩, ⟨#[108, 105, 110, 107]⟩]
def word (k : Nat) : ByteArray := words.getD k ByteArray.empty
/-- Whether one of the first k words is the text. -/
def hitTo (s : ByteArray) : Nat → Bool
  | 0 => false
  | k + 1 => hitTo s k || ((word k).toList == s.toList)
theorem hitTo_true (s : ByteArray) (k n : Nat) (h : hitTo s k = true) (hkn : k ≤ n) : hitTo s n = true := by
  induction n with
  | zero => obtain rfl : k = 0 := by omega
            exact h
  | succ n ih =>
    by_cases e : k = n + 1
    · subst e; exact h
    · simp [hitTo, ih (by omega)]

/-- Whether a text is a name. -/
def nameB (s : ByteArray) : Bool := decide (1 ≤ s.size ∧ s.size ≤ 4) && okTo s s.size && !hitTo s 20
theorem nameB_size (s : ByteArray) (h : ¬ (1 ≤ s.size ∧ s.size ≤ 4)) : nameB s = false := by simp [nameB, h]
theorem nameB_ok (s : ByteArray) (k : Nat) (h : okTo s k = false) (hk : k ≤ s.size) : nameB s = false := by
  simp [nameB, okTo_false s k s.size h hk]
theorem nameB_hit (s : ByteArray) (k : Nat) (h : hitTo s k = true) (hk : k ≤ 20) : nameB s = false := by
  simp [nameB, hitTo_true s k 20 h hk]
theorem nameB_yes (s : ByteArray) (h1 : 1 ≤ s.size) (h4 : s.size ≤ 4) (h : okTo s s.size = true) (hh : hitTo s 20 = false) : nameB s = true := by
  simp [nameB, h1, h4, h, hh]

/-- Two texts of the same bytes are the same. -/
theorem text_ext {x y : ByteArray} (h : x.data.toList = y.data.toList) : x = y := by
  cases x; cases y; simp at h; simp [h]

/-- If an array of texts reads as a list of texts, its cells are these texts. -/
theorem cells_of_strs {H : Type} {enc : TypeId × Value → H} {P : Program} {w : World} {base : Nat} {sp : Nat → Bool} {held : Bool} {fuel : Nat} {t e : TypeId} {n : Nat} {cs : List Value} {zs : List ByteArray} {p : List MemPlace}
    (ht : P.underlying t = some (.array n e)) (he : P.underlying e = some .string) (hce : P.cellsOf e = 1) (hct : P.cellsOf t = n)
    (h : DataW.trod enc P w base sp held fuel t cs = some (.agg (zs.map fun z => .lit (.string z.data.toList)), p)) : cs = zs.map fun z => Value.string z := by
  obtain ⟨xs, m, _, hx, hlen, hxn, hat⟩ := DataW.trod_array ht h
  simp only [Prod.mk.injEq, DataW.agg.injEq] at hx
  have hzn : zs.length = n := by
    have := congrArg List.length hx.1
    simp at this; omega
  refine List.ext_getElem (by simp; omega) fun i h1 h2 => ?_
  have hi : i < n := by omega
  have hr := hat i hi
  rw [hce, Nat.mul_one, List.getElem?_eq_getElem (by omega)] at hr
  obtain ⟨s, hs, hy, _⟩ := DataW.trod_string he hr
  have hd : (List.map (·.1) xs)[i]'(by simp; omega) = DataW.lit (.string s.data.toList) := by simp [hy]
  have hz : s = zs[i] := by
    have := List.getElem_of_eq hx.1.symm (i := i) (by simp; omega)
    rw [hd] at this
    simp only [List.getElem_map, DataW.lit.injEq, Lit.string.injEq] at this
    exact text_ext this
  have hc : cs[i] = .string s := by
    rw [List.drop_eq_getElem_cons h1, List.take_succ_cons] at hs
    exact (List.cons.inj hs).1
  simp [hc, hz]

/-- FROM A ROW's CONDITION TO WHAT THE VARIABLE HOLDS: a table of texts that stands FIRST on the list. -/
theorem strs_of_head {P : Program} {W : World} {name : String} {zs : List ByteArray} {rest : List (String × DataW Unit)} {g : Nat} {t e : TypeId} {n : Nat}
    (hg : P.globalNamed name = some g) (hty : (P.globals[g]?).map (·.type) = some t) (ht : P.underlying t = some (.array n e)) (he : P.underlying e = some .string) (hce : P.cellsOf e = 1) (hct : P.cellsOf t = n)
    (h : laidMet P ((name, .agg (zs.map fun z => .lit (.string z.data.toList))) :: rest) W) : W.var? P name = some (zs.map fun z => Value.string z).toArray := by
  obtain ⟨ps, ⟨g', t', cs, fuel, p, q, hg', ht', hvar, hd, _, _⟩, _⟩ := h
  obtain rfl := Option.some.inj (hg.symm.trans hg')
  obtain rfl := Option.some.inj (hty.symm.trans ht')
  rw [hvar, ← cells_of_strs ht he hce hct hd]

end Go.Proofs.YthmpgeppicbhlaaDoor
