/-
  HeapReach: the program's.
  What HeapReach answers of words together, of each alone, and of the words of a cell.
  What a word is, written, as plain mathematics.
-/
import Derived.Test.YthikfinliiaecaaGreatDoorFgAll20
import Derived.Test.YthikfinliiaecaaGreatDoorWlOn
import Derived.Test.YthikfinliiaecaaGreatDoorFgAll17
import Derived.Test.YthikfinliiaecaaGreatDoorReMath
import Derived.Test.YthikfinliiaecaaGreatDoorFgAll13
import Derived.Test.YthikfinliiaecaaGreatDoorFgAll14
namespace Go.Proofs.YthikfinliiaecaaGreatDoor
open Go.RowKit

theorem inInfo : (Tryz.prog.info? 3).map (fun i => (i.zero, i.size, i.bytes)) = some (some (.int .i64 0), 1, 8) := by kernel_rfl
/-- How a function ends that answers places. -/
def ReachR (w w' : World) (l : List Nat) (r : Ending) : Prop := ∃ v, r = .returned v ∧ w'.ownsRow w.heap.size 3 1 v l.length (natsV l) ∧ Below w.heap.size w w'
/-- What HeapReach answers. -/
def reachM (cs : List Ce) (ws : List Wd) : List Nat := if heapM cs = true ∧ wordsM cs.length ws = true then takenM (inM (copyS cs [] ws)) else []
theorem nats_snoc {w : World} {B k n : Nat} {l : List Nat} {v : Value} (hn : l.length + 1 = n) (h : w.ownsRow B 3 1 v n (natsV l ++ [.int .i64 (k : Int)])) : w.ownsRow B 3 1 v (l ++ [k]).length (natsV (l ++ [k])) := by
  rw [List.length_append, show l.length + [k].length = n from hn]
  simpa [natsV] using h

set_option maxHeartbeats 1000000 in
theorem impl_taken (b : Nat) (fr : List Ce) (s : St) (hs : s.mv.length ≤ 1000) (w : World) (B g : Nat) (vf vt vm : Value) (h : WLi b w B g fr s vf vt vm) :
    Calls Tryz.prog 37 #[.pointer (some ⟨g, 0, none⟩)] w fun r w' => ReachR w w' (takenM (inM s)) r := by
  obtain ⟨i1, hi1, hiz1, his1, hib1⟩ := info_parts inInfo
  obtain ⟨c0, c1, c2, c3, cf⟩ := wl_cells h
  have hown := h.ownM
  obtain ⟨ma, mcap, rfl⟩ : ∃ ma mcap, vm = .slice ma s.mv.length mcap := by
    rcases hown.2 with ⟨rfl, e⟩ | ⟨x, c, _, rfl, _⟩
    · exact ⟨none, 0, by rw [e]⟩
    · exact ⟨_, _, rfl⟩
  have hm : ∀ j (hj : j < s.mv.length), ∃ mb, ma = some ⟨mb, 0, none⟩ ∧ mb < w.heap.size ∧ w.cell? ⟨mb, j, none⟩ = some (.int .i64 s.mv[j]) := fun j hj => by
    obtain ⟨mb, cap, he, hc, _, _, hl, _⟩ := h.rowM hj
    simp at he
    exact ⟨mb, he.1, hl, hc⟩
  clear h hown
  go_enter Tryz.func37, Tryz.ntmps37
  go_wp2_with fail
  clear c0 c1 c2 c3 cf
  go_loopg [3, 11] s.mv.length (fun k v i wr => ∃ j : Nat, j + k = s.mv.length ∧ i = .int .i64 j ∧ wr.ownsRow w.heap.size 3 1 v (takenTo (inM s) j).length (natsV (takenTo (inM s) j)) ∧ Below w.heap.size w wr)
  case atStart => exact ⟨0, by omega, rfl, World.ownsRow_nil _ _ _ _, Below.refl _ _⟩
  case round =>
    obtain ⟨j, hj, rfl, hO, hB⟩ := hrel
    have hz := hB.size
    have htl := takenTo_le (inM s) j
    by_cases hlt : j < s.mv.length
    · obtain ⟨mb, rfl, hml, hc⟩ := hm j hlt
      have hc' : wr.cell? ⟨mb, j, none⟩ = some (.int .i64 s.mv[j]) := by rw [hB.cell (p := ⟨mb, j, none⟩) hml]; exact hc
      have hji : (j : Int) < (s.mv.length : Int) := by omega
      have hnx := takenTo_next (inM s) j (by rw [inM_length]; exact hlt)
      rw [inM_get s j hlt] at hnx
      by_cases hp : 0 ≤ s.mv[j]
      · have HN : Hid (takenTo (inM s) (j + 1) = takenTo (inM s) j ++ [j]) := by show _ = _; rw [hnx, if_pos (decide_eq_true hp)]
        clear hnx
        generalize s.mv[j] = x at *
        go_wp2_with (at_builtin; refine wpList_append_own _ rfl _ _ 31 rfl w.heap.size 3 i1 (.int .i64 0) 1 8 Tryz.underlying31 hi1 hiz1 his1 hib1 rfl (by decide) _ _ _ rfl (hO.alloc _) ⟨wr.heap.size, 0, none⟩ 1 1 [.int .i64 (j : Int)] rfl rfl (ow_cells_new wr _ _) (fun u hu => by simp at hu; subst hu; rfl) (by unfold maxLen; omega) (by omega) (by simp; omega) ?_; intro v8 w8 hO8 hG8 _)
        go_roundg (s.mv.length - (j + 1))
        case measure => omega
        case rel => exact ⟨j + 1, by omega, by go_num, by rw [HN.out]; exact nats_snoc rfl hO8, (hB.alloc hz _).grown hG8 (by simp; omega) (fun k hk => (hO.lt k hk).1)⟩
      · have HN : Hid (takenTo (inM s) (j + 1) = takenTo (inM s) j) := by show _ = _; rw [hnx, if_neg (by rw [decide_eq_false hp]; simp), List.append_nil]
        clear hnx
        generalize s.mv[j] = x at *
        go_wp2_with fail
        go_roundg (s.mv.length - (j + 1))
        case measure => omega
        case rel => exact ⟨j + 1, by omega, by go_num, by rw [HN.out]; exact hO, hB⟩
    · obtain rfl : j = s.mv.length := by omega
      have hji : ¬ (s.mv.length : Int) < (s.mv.length : Int) := by omega
      go_wp2_with fail
      go_ret
      exact ⟨_, rfl, by rw [takenM, inM_length]; exact hO, hB⟩

theorem loop_mv (cs : List Ce) (hrefs : ∀ c ∈ cs, refOk cs.length c.a ∧ refOk cs.length c.b) : ∀ (n : Nat) (s : St) (b i : Nat), Inv cs b i s → (loopS cs n s i).mv.length = cs.length
  | 0, s, _, _, h => h.len
  | n + 1, s, b, i, h => by
    rw [loopS]
    split
    · rename_i hi; exact loop_mv cs hrefs n _ b _ (h.step hrefs hi)
    · exact h.len

set_option maxHeartbeats 1000000 in
theorem impl_HeapReach (cs : List Ce) (hn : cs.length ≤ 1048576) (ws : List Wd) (hws : ws.length ≤ 1048576) (v vw : Value) (w : World) (hv : Cells w (· < w.heap.size) cs v) (hvw : Words w (· < w.heap.size) ws vw) :
    Calls Tryz.prog 9 #[v, vw] w fun r w' => ReachR w w' (reachM cs ws) r := by
  obtain ⟨a, cap, rfl⟩ := hv.slice
  obtain ⟨wa, wcap, rfl⟩ := hvw.slice
  have hk := fun w' (hv' : Cells w' (· < w'.heap.size) cs (.slice a cs.length cap)) => impl_HeapOk cs hn _ w' hv'
  have hw := fun w' (hv' : Words w' (· < w'.heap.size) ws (.slice wa ws.length wcap)) => impl_wordsOk cs.length (by omega) a cap ws hws _ w' hv'
  have nil1 : ∀ w', Below w.heap.size w w' → ReachR w w' [] (.returned (.slice none 0 0)) := fun w' hb => ⟨_, rfl, World.ownsRow_nil _ _ _ _, hb⟩
  cases hh : heapM cs
  · have e1 : reachM cs ws = [] := by rw [reachM, if_neg (by rw [hh]; simp)]
    rw [e1]
    rw [hh] at hk
    go_enter Tryz.func9, Tryz.ntmps9
    go_wp2_with (go_at_call 33; refine (hk _ hv).mono ?_; rintro r w2 ⟨rfl, hb2⟩)
    go_ret
    exact nil1 _ hb2
  cases hx : wordsM cs.length ws
  · have e1 : reachM cs ws = [] := by rw [reachM, if_neg (by rw [hx]; simp)]
    rw [e1]
    rw [hh] at hk
    rw [hx] at hw
    go_enter Tryz.func9, Tryz.ntmps9
    go_wp2_with (first
      | (go_at_call 33; refine (hk _ hv).mono ?_; rintro r w2 ⟨rfl, hb2⟩)
      | (go_at_call 34; refine (hw _ (hvw.keep hb2 hb2.size)).mono ?_; rintro r w3 ⟨rfl, hb3⟩))
    go_ret
    exact nil1 _ (hc_next hb2 hb3)
  have e1 : reachM cs ws = takenM (inM (copyS cs [] ws)) := by rw [reachM, if_pos ⟨hh, hx⟩]
  rw [e1]
  obtain ⟨h120, hrefs⟩ := heap_refs hh
  have hwr := words_refs hx
  have hml := loop_mv cs hrefs (cs.length + 1) _ 0 0 (Inv.words hrefs ws _ (inv0 cs []) hwr)
  rw [hh] at hk
  rw [hx] at hw
  go_enter Tryz.func9, Tryz.ntmps9
  go_wp2_with (first
    | (go_at_call 33; refine (hk _ hv).mono ?_; rintro r w2 ⟨rfl, hb2⟩)
    | (go_at_call 34; refine (hw _ (hvw.keep hb2 hb2.size)).mono ?_; rintro r w3 ⟨rfl, hb3⟩; have hb13 := hc_next hb2 hb3)
    | (go_at_call 35; refine (impl_workOn cs [] (by omega) (by simp) _ _ _ (hv.keep hb13 hb13.size) (RowOf.nil _ _)).mono ?_; rintro r w4 ⟨g, vt, vm, rfl, hW4, hb4⟩)
    | (go_at_call 36; refine (impl_copyWords 0 cs (st0 cs []) ws hws hwr (by omega) (inv0 cs []) hrefs _ w3.heap.size g _ vt vm _ hW4 (((hvw.keep hb13 hb13.size).keep hb4 (Nat.le_refl _)).same fun b hb => ⟨rfl, hW4.low hb⟩)).mono ?_; rintro r w5 ⟨v5, vt5, rfl, _, _, hW5, hM5⟩; have hb5 : Below w.heap.size w w5 := (hc_next hb13 hb4).trans ((hW4.below hM5).mono hb13.size))
    | (go_at_call 37; refine (impl_taken 0 cs _ (by omega) _ w3.heap.size g _ vt5 vm hW5).mono ?_; rintro r w6 ⟨v6, rfl, hO6, hb6⟩))
  go_ret
  exact ⟨_, rfl, ow_base hO6 hb5.size, hc_next hb5 hb6⟩
end Go.Proofs.YthikfinliiaecaaGreatDoor

namespace Go.Proofs.YthikfinliiaecaaGreatDoor

theorem reach_lt {cs : List Ce} {ws : List Wd} {q : Nat} (h : q ∈ reachM cs ws) : q < cs.length := by
  unfold reachM at h
  split at h
  · rename_i hh
    obtain ⟨_, hrefs⟩ := heap_refs hh.1
    have := taken_lt h
    rw [inM_length] at this
    have hml : (copyS cs [] ws).mv.length = cs.length := loop_mv cs hrefs (cs.length + 1) _ 0 0 (Inv.words hrefs ws _ (inv0 cs []) (words_refs hh.2))
    omega
  · simp at h
theorem reach_sorted (cs : List Ce) (ws : List Wd) : (reachM cs ws).Pairwise (· < ·) := by
  unfold reachM
  split
  · exact taken_sorted _
  · exact List.Pairwise.nil
/-- Of words that are ok: just the places to which they lead. -/
theorem reach_iff {cs : List Ce} {ws : List Wd} (hh : heapM cs = true) (hw : wordsM cs.length ws = true) (q : Nat) : q ∈ reachM cs ws ↔ Leads cs ws q := by
  rw [reachM, if_pos ⟨hh, hw⟩, taken_mem, copy_leads (heap_refs hh).2 (words_refs hw)]
theorem reach_leads {cs : List Ce} {ws : List Wd} {q : Nat} (h : q ∈ reachM cs ws) : Leads cs ws q := by
  have h' := h
  unfold reachM at h
  split at h
  · rename_i hh
    exact (reach_iff hh.1 hh.2 q).1 h'
  · simp at h
theorem words_one {n : Nat} {ws : List Wd} {x : Wd} (h : wordsM n ws = true) (hx : x ∈ ws) : wordsM n [x] = true := by
  rw [wordsM, List.all_eq_true] at h
  rw [wordsM, List.all_eq_true]
  intro y hy
  have e : y = x := by simpa using hy
  subst e
  exact h y hx
/-- All that words lead to is what each of them leads to. -/
theorem reach_each {cs : List Ce} {ws : List Wd} (hh : heapM cs = true) (hw : wordsM cs.length ws = true) (q : Nat) : q ∈ reachM cs ws ↔ ∃ x ∈ ws, q ∈ reachM cs [x] := by
  rw [reach_iff hh hw]
  constructor
  · intro h
    obtain ⟨x, hx, hl⟩ := h.one
    exact ⟨x, hx, (reach_iff hh (words_one hw hx) q).2 hl⟩
  · rintro ⟨x, hx, hq⟩
    exact Leads.of_one hx (reach_leads hq)
/-- What the words of a cell lead to that words lead to, they lead to. -/
theorem reach_cell {cs : List Ce} {ws : List Wd} (hh : heapM cs = true) (hw : wordsM cs.length ws = true) {p q : Nat} (hp : p ∈ reachM cs ws) (hpl : p < cs.length) (hq : q ∈ reachM cs [cs[p].a, cs[p].b]) : q ∈ reachM cs ws := by
  rw [reach_iff hh hw]
  exact Leads.of_cell (reach_leads hp) (List.getElem?_eq_getElem hpl) (reach_leads hq)
/-- Marks of all that each of the words leads to are as many as they lead to together. -/
theorem reach_many {cs : List Ce} {ws : List Wd} (hh : heapM cs = true) (inn : List Bool) (hl : inn.length = cs.length) (hi : ∀ q, inn.getD q false = true ↔ ∃ x ∈ ws, q ∈ reachM cs [x]) :
    inn.countP id = (reachM cs ws).length ∨ (reachM cs ws).length = 0 := by
  cases hw : wordsM cs.length ws
  · right
    rw [reachM, if_neg (by rw [hw]; simp)]
    rfl
  · left
    obtain ⟨_, hrefs⟩ := heap_refs hh
    have hml : (copyS cs [] ws).mv.length = cs.length := loop_mv cs hrefs (cs.length + 1) _ 0 0 (Inv.words hrefs ws _ (inv0 cs []) (words_refs hw))
    have e : inn = inM (copyS cs [] ws) := by
      apply bools_ext (by rw [inM_length, hml, hl])
      intro q
      rw [hi, ← reach_each hh hw, reach_iff hh hw, copy_leads hrefs (words_refs hw)]
    rw [reachM, if_pos ⟨hh, hw⟩, taken_count, e]
/-- Where words lead to something at all they are ok. -/
theorem reach_some {cs : List Ce} {ws : List Wd} {q : Nat} (h : q ∈ reachM cs ws) : wordsM cs.length ws = true := by
  unfold reachM at h
  split at h
  · rename_i hh; exact hh.2
  · simp at h
end Go.Proofs.YthikfinliiaecaaGreatDoor

namespace Go.Proofs.YthikfinliiaecaaGreatDoor
open Go.RowKit

def dotsS : ByteArray := ⟨#[46, 46, 46]⟩
def nilS : ByteArray := ⟨#[110, 105, 108]⟩
def trueS : ByteArray := ⟨#[116, 114, 117, 101]⟩
def falseS : ByteArray := ⟨#[102, 97, 108, 115, 101]⟩
def pidS : ByteArray := ⟨#[112, 105, 100, 32]⟩
def openS : ByteArray := ⟨#[40]⟩
def closeS : ByteArray := ⟨#[41]⟩
def commaS : ByteArray := ⟨#[44, 32]⟩
def colonS : ByteArray := ⟨#[32, 58, 58, 32]⟩
def envS : ByteArray := ⟨#[101, 110, 118]⟩
def funS : ByteArray := ⟨#[102, 117, 110]⟩

/-- What stands ahead in a list. -/
def headM (cs : List Ce) (t u : Int) (s : ByteArray) : ByteArray := if t = 4 ∧ kindAt cs u = some 2 then openS ++ s ++ closeS else s
/-- A cell, its words being written by f. -/
def cellT (f : Int → Int → ByteArray) (cs : List Ce) (k at' an bt bn : Int) : ByteArray :=
  if k = 1 then openS ++ f at' an ++ commaS ++ f bt bn ++ closeS
  else if k = 2 then headM cs at' an (f at' an) ++ colonS ++ f bt bn
  else if k = 3 then envS else funS
/-- A word, so deep. -/
def textM (cs : List Ce) : Nat → Int → Int → ByteArray
  | 0, _, _ => dotsS
  | d + 1, t, u =>
    if t = 1 then decZ u else if t = 2 then (if u = 1 then trueS else falseS) else if t = 3 then pidS ++ decZ u
    else if t = 4 then (match cs[u.toNat]? with | some c => cellT (textM cs d) cs c.kind c.a.tag c.a.num c.b.tag c.b.num | none => nilS) else nilS

theorem ap_size (a b : ByteArray) : (a ++ b).size = a.size + b.size := ByteArray.size_append
theorem head_size (cs : List Ce) (t u : Int) (s : ByteArray) : (headM cs t u s).size ≤ s.size + 2 := by
  unfold headM
  split
  · simp only [ap_size]; show 1 + s.size + 1 ≤ _; omega
  · omega
/-- All cells are ok, and not too many. -/
def AllOk (cs : List Ce) : Prop := cs.length ≤ 120 ∧ ∀ k (hk : k < cs.length), cellP cs cs[k]
theorem text_size {cs : List Ce} (ho : AllOk cs) : ∀ (d : Nat) (t u : Int), wordP cs.length t u → (textM cs d t u).size + 6 ≤ 40 * 2 ^ d := by
  intro d
  induction d with
  | zero => intro t u _; show 3 + 6 ≤ 40 * 1; omega
  | succ d ih =>
    intro t u hw
    have hp : 1 ≤ 2 ^ d := Nat.one_le_two_pow
    have hp2 : 2 ^ (d + 1) = 2 * 2 ^ d := by rw [Nat.pow_succ]; omega
    rw [hp2, textM]
    split
    · have := decZ_size u (by unfold wordP at hw; omega) (by unfold wordP at hw; omega); omega
    · split
      · split
        · show 4 + 6 ≤ _; omega
        · show 5 + 6 ≤ _; omega
      · split
        · have := decZ_size u (by unfold wordP at hw; omega) (by unfold wordP at hw; omega)
          rw [ap_size]; show 4 + _ + 6 ≤ _; omega
        · split
          · rename_i h4
            have hu : u.toNat < cs.length := by unfold wordP at hw; omega
            rw [List.getElem?_eq_getElem hu]
            have hc := ho.2 _ hu
            have h1 := ih _ _ hc.1
            have h2 := ih _ _ hc.2.1
            show (cellT _ _ _ _ _ _ _).size + 6 ≤ _
            unfold cellT
            split
            · simp only [ap_size]
              show 1 + _ + 2 + _ + 1 + 6 ≤ _
              omega
            · split
              · simp only [ap_size]
                have := head_size cs cs[u.toNat].a.tag cs[u.toNat].a.num (textM cs d cs[u.toNat].a.tag cs[u.toNat].a.num)
                show _ + 4 + _ + 6 ≤ _
                omega
              · split
                · show 3 + 6 ≤ _; omega
                · show 3 + 6 ≤ _; omega
          · show 3 + 6 ≤ _; omega
theorem text_small {cs : List Ce} (ho : AllOk cs) (d : Nat) (hd : d ≤ 14) (t u : Int) (hw : wordP cs.length t u) : (textM cs d t u).size ≤ 655360 := by
  have h := text_size ho d t u hw
  have : 2 ^ d ≤ 2 ^ 14 := Nat.pow_le_pow_right (by omega) hd
  omega
end Go.Proofs.YthikfinliiaecaaGreatDoor

