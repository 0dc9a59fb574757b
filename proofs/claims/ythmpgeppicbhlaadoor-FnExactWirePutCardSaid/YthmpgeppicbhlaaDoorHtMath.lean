/-
  What a word is, written, as plain mathematics.
-/
import Derived.Test.YthmpgeppicbhlaaDoorHtDec
import Derived.Test.YthmpgeppicbhlaaDoorHoImpl
namespace Go.Proofs.YthmpgeppicbhlaaDoor
open Go.RowKit

def dotsS : ByteArray := ⟨#[46, 46, 46]⟩
def nilS : ByteArray := ⟨#[110, 105, 108]⟩
def trueS : ByteArray := ⟨#[116, 114, 117, 101]⟩
def falseS : ByteArray := ⟨#[102, 97, 108, 115, 101]⟩
def pidS : ByteArray := ⟨#[112, 105, 100, 32]⟩
def openS : ByteArray := ⟨#[40]⟩
def closeS : ByteArray := ⟨#[41]⟩
def commaS : ByteArray := ⟨#[44, 32]⟩
def colonS : ByteArray := ⟨#[32, 58, 58, 32]⟩
def envS : ByteArray := ⟨#[101, 110, 118]⟩
def funS : ByteArray := ⟨#[102, 117, 110]⟩

/-- What stands ahead in a list. -/
def headM (cs : List Ce) (t u : Int) (s : ByteArray) : ByteArray := if t = 4 ∧ kindAt cs u = some 2 then openS ++ s ++ closeS else s
/-- A cell, its words being written by f. -/
def cellT (f : Int → Int → ByteArray) (cs : List Ce) (k at' an bt bn : Int) : ByteArray :=
  if k = 1 then openS ++ f at' an ++ commaS ++ f bt bn ++ closeS
  else if k = 2 then headM cs at' an (f at' an) ++ colonS ++ f bt bn
  else if k = 3 then envS else funS
/-- A word, so deep. -/
def textM (cs : List Ce) : Nat → Int → Int → ByteArray
  | 0, _, _ => dotsS
  | d + 1, t, u =>
    if t = 1 then decZ u else if t = 2 then (if u = 1 then trueS else falseS) else if t = 3 then pidS ++ decZ u
    else if t = 4 then (match cs[u.toNat]? with | some c => cellT (textM cs d) cs c.kind c.a.tag c.a.num c.b.tag c.b.num | none => nilS) else nilS

theorem ap_size (a b : ByteArray) : (a ++ b).size = a.size + b.size := ByteArray.size_append
theorem head_size (cs : List Ce) (t u : Int) (s : ByteArray) : (headM cs t u s).size ≤ s.size + 2 := by
  unfold headM
  split
  · simp only [ap_size]; show 1 + s.size + 1 ≤ _; omega
  · omega
/-- All cells are ok, and not too many. -/
def AllOk (cs : List Ce) : Prop := cs.length ≤ 120 ∧ ∀ k (hk : k < cs.length), cellP cs cs[k]
theorem text_size {cs : List Ce} (ho : AllOk cs) : ∀ (d : Nat) (t u : Int), wordP cs.length t u → (textM cs d t u).size + 6 ≤ 40 * 2 ^ d := by
  intro d
  induction d with
  | zero => intro t u _; show 3 + 6 ≤ 40 * 1; omega
  | succ d ih =>
    intro t u hw
    have hp : 1 ≤ 2 ^ d := Nat.one_le_two_pow
    have hp2 : 2 ^ (d + 1) = 2 * 2 ^ d := by rw [Nat.pow_succ]; omega
    rw [hp2, textM]
    split
    · have := decZ_size u (by unfold wordP at hw; omega) (by unfold wordP at hw; omega); omega
    · split
      · split
        · show 4 + 6 ≤ _; omega
        · show 5 + 6 ≤ _; omega
      · split
        · have := decZ_size u (by unfold wordP at hw; omega) (by unfold wordP at hw; omega)
          rw [ap_size]; show 4 + _ + 6 ≤ _; omega
        · split
          · rename_i h4
            have hu : u.toNat < cs.length := by unfold wordP at hw; omega
            rw [List.getElem?_eq_getElem hu]
            have hc := ho.2 _ hu
            have h1 := ih _ _ hc.1
            have h2 := ih _ _ hc.2.1
            show (cellT _ _ _ _ _ _ _).size + 6 ≤ _
            unfold cellT
            split
            · simp only [ap_size]
              show 1 + _ + 2 + _ + 1 + 6 ≤ _
              omega
            · split
              · simp only [ap_size]
                have := head_size cs cs[u.toNat].a.tag cs[u.toNat].a.num (textM cs d cs[u.toNat].a.tag cs[u.toNat].a.num)
                show _ + 4 + _ + 6 ≤ _
                omega
              · split
                · show 3 + 6 ≤ _; omega
                · show 3 + 6 ≤ _; omega
          · show 3 + 6 ≤ _; omega
theorem text_small {cs : List Ce} (ho : AllOk cs) (d : Nat) (hd : d ≤ 14) (t u : Int) (hw : wordP cs.length t u) : (textM cs d t u).size ≤ 655360 := by
  have h := text_size ho d t u hw
  have : 2 ^ d ≤ 2 ^ 14 := Nat.pow_le_pow_right (by omega) hd
  omega
end Go.Proofs.YthmpgeppicbhlaaDoor
