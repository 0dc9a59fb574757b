/-
  HeapReach: the program's.
  What HeapReach answers of words together, of each alone, and of the words of a cell.
  What a word is, written, as plain mathematics.
-/
import Derived.Test.YtkollpgacheeoaaGreatDoorWpAll11
import Derived.Test.YtkollpgacheeoaaGreatDoorWlOn
import Derived.Test.YtkollpgacheeoaaGreatDoorWpAll6
import Derived.Test.YtkollpgacheeoaaGreatDoorReMath
import Derived.Test.YtkollpgacheeoaaGreatDoorWpAll1
import Derived.Test.YtkollpgacheeoaaGreatDoorHoImpl
namespace Go.Proofs.YtkollpgacheeoaaGreatDoor
open Go.RowKit

theorem inInfo : (Tryz.prog.info? 3).map (fun i => (i.zero, i.size, i.bytes)) = some (some (.int .i64 0), 1, 8) := by kernel_rfl
/-- How a function ends that answers places. -/
def ReachR (w w' : World) (l : List Nat) (r : Ending) : Prop := ∃ v, r = .returned v ∧ w'.ownsRow w.heap.size 3 1 v l.length (natsV l) ∧ Below w.heap.size w w'
/-- What HeapReach answers. -/
def reachM (cs : List Ce) (ws : List Wd) : List Nat := if heapM cs = true ∧ wordsM cs.length ws = true then takenM (inM (copyS cs [] ws)) else []
theorem nats_snoc {w : World} {B k n : Nat} {l : List Nat} {v : Value} (hn : l.length + 1 = n) (h : w.ownsRow B 3 1 v n (natsV l ++ [.int .i64 (k : Int)])) : w.ownsRow B 3 1 v (l ++ [k]).length (natsV (l ++ [k])) := by
  rw [List.length_append, show l.length + [k].length = n from hn]
  simpa [natsV] using h

theorem loop_mv (cs : List Ce) (hrefs : ∀ c ∈ cs, refOk cs.length c.a ∧ refOk cs.length c.b) : ∀ (n : Nat) (s : St) (b i : Nat), Inv cs b i s → (loopS cs n s i).mv.length = cs.length
  | 0, s, _, _, h => h.len
  | n + 1, s, b, i, h => by
    rw [loopS]
    split
    · rename_i hi; exact loop_mv cs hrefs n _ b _ (h.step hrefs hi)
    · exact h.len

end Go.Proofs.YtkollpgacheeoaaGreatDoor

namespace Go.Proofs.YtkollpgacheeoaaGreatDoor

theorem reach_lt {cs : List Ce} {ws : List Wd} {q : Nat} (h : q ∈ reachM cs ws) : q < cs.length := by
  unfold reachM at h
  split at h
  · rename_i hh
    obtain ⟨_, hrefs⟩ := heap_refs hh.1
    have := taken_lt h
    rw [inM_length] at this
    have hml : (copyS cs [] ws).mv.length = cs.length := loop_mv cs hrefs (cs.length + 1) _ 0 0 (Inv.words hrefs ws _ (inv0 cs []) (words_refs hh.2))
    omega
  · simp at h
theorem reach_sorted (cs : List Ce) (ws : List Wd) : (reachM cs ws).Pairwise (· < ·) := by
  unfold reachM
  split
  · exact taken_sorted _
  · exact List.Pairwise.nil
/-- Of words that are ok: just the places to which they lead. -/
theorem reach_iff {cs : List Ce} {ws : List Wd} (hh : heapM cs = true) (hw : wordsM cs.length ws = true) (q : Nat) : q ∈ reachM cs ws ↔ Leads cs ws q := by
  rw [reachM, if_pos ⟨hh, hw⟩, taken_mem, copy_leads (heap_refs hh).2 (words_refs hw)]
theorem reach_leads {cs : List Ce} {ws : List Wd} {q : Nat} (h : q ∈ reachM cs ws) : Leads cs ws q := by
  have h' := h
  unfold reachM at h
  split at h
  · rename_i hh
    exact (reach_iff hh.1 hh.2 q).1 h'
  · simp at h
theorem words_one {n : Nat} {ws : List Wd} {x : Wd} (h : wordsM n ws = true) (hx : x ∈ ws) : wordsM n [x] = true := by
  rw [wordsM, List.all_eq_true] at h
  rw [wordsM, List.all_eq_true]
  intro y hy
  have e : y = x := by simpa using hy
  subst e
  exact h y hx
/-- All that words lead to is what each of them leads to. -/
theorem reach_each {cs : List Ce} {ws : List Wd} (hh : heapM cs = true) (hw : wordsM cs.length ws = true) (q : Nat) : q ∈ reachM cs ws ↔ ∃ x ∈ ws, q ∈ reachM cs [x] := by
  rw [reach_iff hh hw]
  constructor
  · intro h
    obtain ⟨x, hx, hl⟩ := h.one
    exact ⟨x, hx, (reach_iff hh (words_one hw hx) q).2 hl⟩
  · rintro ⟨x, hx, hq⟩
    exact Leads.of_one hx (reach_leads hq)
/-- What the words of a cell lead to that words lead to, they lead to. -/
theorem reach_cell {cs : List Ce} {ws : List Wd} (hh : heapM cs = true) (hw : wordsM cs.length ws = true) {p q : Nat} (hp : p ∈ reachM cs ws) (hpl : p < cs.length) (hq : q ∈ reachM cs [cs[p].a, cs[p].b]) : q ∈ reachM cs ws := by
  rw [reach_iff hh hw]
  exact Leads.of_cell (reach_leads hp) (List.getElem?_eq_getElem hpl) (reach_leads hq)
/-- Marks of all that each of the words leads to are as many as they lead to together. -/
theorem reach_many {cs : List Ce} {ws : List Wd} (hh : heapM cs = true) (inn : List Bool) (hl : inn.length = cs.length) (hi : ∀ q, inn.getD q false = true ↔ ∃ x ∈ ws, q ∈ reachM cs [x]) :
    inn.countP id = (reachM cs ws).length ∨ (reachM cs ws).length = 0 := by
  cases hw : wordsM cs.length ws
  · right
    rw [reachM, if_neg (by rw [hw]; simp)]
    rfl
  · left
    obtain ⟨_, hrefs⟩ := heap_refs hh
    have hml : (copyS cs [] ws).mv.length = cs.length := loop_mv cs hrefs (cs.length + 1) _ 0 0 (Inv.words hrefs ws _ (inv0 cs []) (words_refs hw))
    have e : inn = inM (copyS cs [] ws) := by
      apply bools_ext (by rw [inM_length, hml, hl])
      intro q
      rw [hi, ← reach_each hh hw, reach_iff hh hw, copy_leads hrefs (words_refs hw)]
    rw [reachM, if_pos ⟨hh, hw⟩, taken_count, e]
/-- Where words lead to something at all they are ok. -/
theorem reach_some {cs : List Ce} {ws : List Wd} {q : Nat} (h : q ∈ reachM cs ws) : wordsM cs.length ws = true := by
  unfold reachM at h
  split at h
  · rename_i hh; exact hh.2
  · simp at h
end Go.Proofs.YtkollpgacheeoaaGreatDoor

namespace Go.Proofs.YtkollpgacheeoaaGreatDoor
open Go.RowKit

def dotsS : ByteArray := ⟨#[46, 46, 46]⟩
def nilS : ByteArray := ⟨#[110, 105, 108]⟩
def trueS : ByteArray := ⟨#[116, 114, 117, 101]⟩
def falseS : ByteArray := ⟨#[102, 97, 108, 115, 101]⟩
def pidS : ByteArray := ⟨#[112, 105, 100, 32]⟩
def openS : ByteArray := ⟨#[40]⟩
def closeS : ByteArray := ⟨#[41]⟩
def commaS : ByteArray := ⟨#[44, 32]⟩
def colonS : ByteArray := ⟨#[32, 58, 58, 32]⟩
def envS : ByteArray := ⟨#[101, 110, 118]⟩
def funS : ByteArray := ⟨#[102, 117, 110]⟩

/-- What stands ahead in a list. -/
def headM (cs : List Ce) (t u : Int) (s : ByteArray) : ByteArray := if t = 4 ∧ kindAt cs u = some 2 then openS ++ s ++ closeS else s
/-- A cell, its words being written by f. -/
def cellT (f : Int → Int → ByteArray) (cs : List Ce) (k at' an bt bn : Int) : ByteArray :=
  if k = 1 then openS ++ f at' an ++ commaS ++ f bt bn ++ closeS
  else if k = 2 then headM cs at' an (f at' an) ++ colonS ++ f bt bn
  else if k = 3 then envS else funS
/-- A word, so deep. -/
def textM (cs : List Ce) : Nat → Int → Int → ByteArray
  | 0, _, _ => dotsS
  | d + 1, t, u =>
    if t = 1 then decZ u else if t = 2 then (if u = 1 then trueS else falseS) else if t = 3 then pidS ++ decZ u
    else if t = 4 then (match cs[u.toNat]? with | some c => cellT (textM cs d) cs c.kind c.a.tag c.a.num c.b.tag c.b.num | none => nilS) else nilS

theorem ap_size (a b : ByteArray) : (a ++ b).size = a.size + b.size := ByteArray.size_append
theorem head_size (cs : List Ce) (t u : Int) (s : ByteArray) : (headM cs t u s).size ≤ s.size + 2 := by
  unfold headM
  split
  · simp only [ap_size]; show 1 + s.size + 1 ≤ _; omega
  · omega
/-- All cells are ok, and not too many. -/
def AllOk (cs : List Ce) : Prop := cs.length ≤ 120 ∧ ∀ k (hk : k < cs.length), cellP cs cs[k]
theorem text_size {cs : List Ce} (ho : AllOk cs) : ∀ (d : Nat) (t u : Int), wordP cs.length t u → (textM cs d t u).size + 6 ≤ 40 * 2 ^ d := by
  intro d
  induction d with
  | zero => intro t u _; show 3 + 6 ≤ 40 * 1; omega
  | succ d ih =>
    intro t u hw
    have hp : 1 ≤ 2 ^ d := Nat.one_le_two_pow
    have hp2 : 2 ^ (d + 1) = 2 * 2 ^ d := by rw [Nat.pow_succ]; omega
    rw [hp2, textM]
    split
    · have := decZ_size u (by unfold wordP at hw; omega) (by unfold wordP at hw; omega); omega
    · split
      · split
        · show 4 + 6 ≤ _; omega
        · show 5 + 6 ≤ _; omega
      · split
        · have := decZ_size u (by unfold wordP at hw; omega) (by unfold wordP at hw; omega)
          rw [ap_size]; show 4 + _ + 6 ≤ _; omega
        · split
          · rename_i h4
            have hu : u.toNat < cs.length := by unfold wordP at hw; omega
            rw [List.getElem?_eq_getElem hu]
            have hc := ho.2 _ hu
            have h1 := ih _ _ hc.1
            have h2 := ih _ _ hc.2.1
            show (cellT _ _ _ _ _ _ _).size + 6 ≤ _
            unfold cellT
            split
            · simp only [ap_size]
              show 1 + _ + 2 + _ + 1 + 6 ≤ _
              omega
            · split
              · simp only [ap_size]
                have := head_size cs cs[u.toNat].a.tag cs[u.toNat].a.num (textM cs d cs[u.toNat].a.tag cs[u.toNat].a.num)
                show _ + 4 + _ + 6 ≤ _
                omega
              · split
                · show 3 + 6 ≤ _; omega
                · show 3 + 6 ≤ _; omega
          · show 3 + 6 ≤ _; omega
theorem text_small {cs : List Ce} (ho : AllOk cs) (d : Nat) (hd : d ≤ 14) (t u : Int) (hw : wordP cs.length t u) : (textM cs d t u).size ≤ 655360 := by
  have h := text_size ho d t u hw
  have : 2 ^ d ≤ 2 ^ 14 := Nat.pow_le_pow_right (by omega) hd
  omega
end Go.Proofs.YtkollpgacheeoaaGreatDoor

