/-
  The specification's WirePut.
  The lines of a text. Mathematics; no program is named here.
  A text cut at a byte, so many times at most. Mathematics; no program is named here.
  Figures: what l1Num and strconv.Atoi make of a number's own figures. Mathematics; no program is named here.
-/
import Derived.Test.YthikfinliiaecaaGreatDoorWiSpecB
import Derived.Lib.Bytealg
import Derived.Test.YthikfinliiaecaaGreatDoorFgAll14
import Derived.Lib.AtoiTie
namespace Go.Proofs.YthikfinliiaecaaGreatDoor
open Go.RowKit

theorem wi_two {w w' : World} {b : Nat} {x y : Value} (h0 : w.cell? ⟨b, 0, none⟩ = some x) (h1 : w.cell? ⟨b, 1, none⟩ = some y) (hb : Below w.heap.size w w') : w'.cell? ⟨b, 0, none⟩ = some x ∧ w'.cell? ⟨b, 1, none⟩ = some y := by
  have hlt : ∀ {j : Nat} {z : Value}, w.cell? ⟨b, j, none⟩ = some z → b < w.heap.size := fun {j z} h => by
    unfold World.cell? at h
    rcases Nat.lt_or_ge b w.heap.size with h' | h'
    · exact h'
    · simp [Array.getElem?_eq_none h'] at h
  exact ⟨by rw [hb.cell (hlt h0)]; exact h0, by rw [hb.cell (hlt h1)]; exact h1⟩
set_option maxRecDepth 100000 in
set_option maxHeartbeats 4000000 in
theorem spec_WirePut (cs : List Ce) (hn : cs.length ≤ 1048576) (d : Wd) (v : Value) (w : World) (hv : Cells w (· < w.heap.size) cs v) :
    Calls Tryz.prog 12 #[v, .agg #[.int .i64 d.tag, .int .i64 d.num]] w fun r w' => r = .returned (.string (bx (wireM cs d))) ∧ Below w.heap.size w w' := by
  obtain ⟨a, cap, rfl⟩ := hv.slice
  have hB1 : ∀ o, Below w.heap.size w (w.alloc o) := fun o => (Below.refl _ _).alloc (Nat.le_refl _) o
  have hO := fun o => ho_l7Ok cs hn _ (w.alloc o) (hv.keep (hB1 o) (by simp))
  have hWo := fun w' => ho_l7WordOk cs.length (by omega) d.tag d.num w'
  have hcell : ∀ {w2 : World} {o : Obj}, o = .cells #[.int .i64 d.tag, .int .i64 d.num] 26 → Below (w.alloc o).heap.size (w.alloc o) w2 → w2.cell? ⟨w.heap.size, 0, none⟩ = some (.int .i64 d.tag) ∧ w2.cell? ⟨w.heap.size, 1, none⟩ = some (.int .i64 d.num) := fun ho hb => by
    subst ho
    rw [hb.cell (by simp), hb.cell (by simp)]
    simp [go_sem]
  by_cases hh : heapM cs = true
  case neg =>
    have e3 : wireM cs d = [] := by rw [wireM, if_neg (fun h => hh h.1)]
    rw [e3]
    rw [Bool.eq_false_iff.2 hh] at hO
    go_enter Tryz.func12, Tryz.ntmps12
    go_wp2_with (go_at_call 24; refine (hO _).mono ?_; rintro e w2 ⟨rfl, hb2⟩)
    go_ret
    exact ⟨rfl, (hB1 _).trans (hb2.mono (by simp))⟩
  rw [hh] at hO
  by_cases hw : wordP cs.length d.tag d.num
  case neg =>
    have e3 : wireM cs d = [] := by rw [wireM, if_neg (fun h => hw (words_one_iff.1 h.2))]
    rw [e3]
    rw [decide_eq_false hw] at hWo
    clear hh
    go_enter Tryz.func12, Tryz.ntmps12
    go_wp2_with (first
      | (go_at_call 24; refine (hO _).mono ?_; rintro e w2 ⟨rfl, hb2⟩; obtain ⟨p0, p1⟩ := hcell rfl hb2; have hB2 := (hB1 _).trans (hb2.mono (by simp)); clear hb2)
      | (go_at_call 25; refine (hWo _).mono ?_; rintro e w3 ⟨rfl, hb3⟩))
    go_ret
    exact ⟨rfl, hB2.trans (hb3.mono hB2.size)⟩
  rw [decide_eq_true hw] at hWo
  have hok : okW cs d := ⟨hh, words_one_iff.2 hw⟩
  obtain ⟨x, ex, hheap, hwp⟩ := wire_yes hok
  have e3 : wireM cs d = wireT (cleanC cs [d]) x := by rw [wireM, if_pos hok, ex]; rfl
  rw [e3]
  have e1 : cleanC cs [d] = (copyS cs [] [d]).to := by rw [cleanC]; exact if_pos hok
  have e2 : cleanW cs [d] = wordsW cs (st0 cs []) [d] := by rw [cleanW]; exact if_pos hok
  rw [e2] at ex
  rw [e1] at hheap hwp ⊢
  have hfine := cell_fine hheap
  have h120 : (copyS cs [] [d]).to.length ≤ 120 := (heap_refs hheap).1
  have hxf := word_fine (by omega) hwp
  obtain ⟨hcl, hrefs⟩ := heap_refs hh
  have hwr := words_refs hok.2
  have HCopy := fun w' hc hl => copy_rest cs [] [d] (by omega) (by simp) (by simp) hwr hrefs w' a none cap 0 (.slice (some ⟨w'.heap.size - 1, 0, none⟩) 1 1) hc (RowOf.nil _ _) hl
  have HPut := fun v' w' h => spec_l12Put (copyS cs [] [d]).to h120 hfine x hxf v' w' h
  go_enter Tryz.func12, Tryz.ntmps12
  go_upto_region 3 with (first
    | (go_at_call 24; refine (hO _).mono ?_; rintro e w2 ⟨rfl, hb2⟩; obtain ⟨p0, p1⟩ := hcell rfl hb2; have hB2 := (hB1 _).trans (hb2.mono (by simp)); clear hb2)
    | (go_at_call 25; refine (hWo _).mono ?_; rintro e w3 ⟨rfl, hb3⟩; obtain ⟨q0, q1⟩ := wi_two p0 p1 hb3; have hB3 := hB2.trans (hb3.mono hB2.size)))
  clear p0 p1 hb3 hB2 hO hWo hcell
  have hB4 : Below w.heap.size w (w3.alloc (.cells #[.int .i64 d.tag, .int .i64 d.num] 26)) := hB3.alloc hB3.size _
  have HC := HCopy (w3.alloc (.cells #[.int .i64 d.tag, .int .i64 d.num] 26)) (hv.keep hB4 hB4.size) (by simpa using wi_lit w3 d)
  rw [show (w3.alloc (.cells #[.int .i64 d.tag, .int .i64 d.num] 26)).heap.size - 1 = w3.heap.size by simp] at HC
  clear HCopy
  unfold CopyP at HC
  rw [ex] at HC
  go_wp2_with (first
    | (go_at_call 26; refine HC.mono ?_; rintro e w4 ⟨vt, v2, rfl, hO1, hO2, hb4⟩; have hC4 := wi_cells hO1; (obtain ⟨a1, c1, rfl⟩ := hC4.slice); (obtain ⟨a2, c2, rfl⟩ := (wi_words hO2).slice); (obtain ⟨xb, xo, hxb, rfl, xr⟩ := (wi_words hO2).at 0 (by simp)); (obtain ⟨x0, x1⟩ := Wd.two xr); rw [Nat.zero_mul] at x0 x1; simp only [Nat.add_zero] at x0 x1)
    | (go_at_call 27; refine (HPut _ _ hC4).mono ?_; rintro e w5 ⟨rfl, hb5⟩))
  go_ret
  exact ⟨rfl, wi_next (hB4.trans (hb4.mono hB4.size)) hb5⟩
end Go.Proofs.YthikfinliiaecaaGreatDoor

namespace Go.Proofs.YthikfinliiaecaaGreatDoor

/-- A text's first line, with its newline, and what stands behind. -/
def cutLine : List UInt8 → List UInt8 × List UInt8
  | [] => ([], [])
  | b :: l => if b = 10 then ([10], l) else (b :: (cutLine l).1, (cutLine l).2)
theorem index_ge : ∀ (l : List UInt8), -1 ≤ Lib.indexByte l 10 ∧ Lib.indexByte l 10 < l.length
  | [] => by decide
  | b :: l => by
    have h := index_ge l
    rw [Lib.indexByte, List.length_cons]
    split
    · omega
    · split
      · omega
      · omega
theorem cut_index : ∀ (l : List UInt8), (0 ≤ Lib.indexByte l 10 → cutLine l = (l.take ((Lib.indexByte l 10).toNat + 1), l.drop ((Lib.indexByte l 10).toNat + 1))) ∧ (¬ 0 ≤ Lib.indexByte l 10 → cutLine l = (l, []))
  | [] => ⟨fun h => absurd h (by decide), fun _ => rfl⟩
  | b :: l => by
    obtain ⟨h1, h2⟩ := cut_index l
    have hg := index_ge l
    by_cases hb : b = 10
    · subst hb
      have e : Lib.indexByte (10 :: l) 10 = 0 := by rw [Lib.indexByte]; rfl
      rw [e, cutLine, if_pos rfl]
      exact ⟨fun _ => rfl, fun h => absurd (Int.le_refl _) h⟩
    · have hbb : ¬ ((b == 10) = true) := by simpa using hb
      rw [cutLine, if_neg hb]
      by_cases hl : 0 ≤ Lib.indexByte l 10
      · have hne : ¬ ((Lib.indexByte l 10 == -1) = true) := by simp; omega
        have e : Lib.indexByte (b :: l) 10 = Lib.indexByte l 10 + 1 := by
          rw [Lib.indexByte, if_neg hbb, if_neg hne]
        rw [e, h1 hl, show (Lib.indexByte l 10 + 1).toNat = (Lib.indexByte l 10).toNat + 1 by omega]
        exact ⟨fun _ => rfl, fun h => absurd (by omega) h⟩
      · have hy : (Lib.indexByte l 10 == -1) = true := by simp; omega
        have e : Lib.indexByte (b :: l) 10 = -1 := by
          rw [Lib.indexByte, if_neg hbb, if_pos hy]
        rw [e, h2 hl]
        exact ⟨fun h => absurd h (by decide), fun _ => rfl⟩
theorem cut_app : ∀ (l : List UInt8), (cutLine l).1 ++ (cutLine l).2 = l
  | [] => rfl
  | b :: l => by
    rw [cutLine]
    split
    · rename_i h
      subst h
      rfl
    · show b :: ((cutLine l).1 ++ (cutLine l).2) = _
      rw [cut_app l]
theorem cut_less {l : List UInt8} (h : l ≠ []) : (cutLine l).2.length < l.length := by
  cases l with
  | nil => exact absurd rfl h
  | cons b l =>
    have := congrArg List.length (cut_app l)
    rw [List.length_append] at this
    rw [cutLine]
    split
    · simp
    · simp; omega
/-- What stands behind k lines. -/
def restL : Nat → List UInt8 → List UInt8
  | 0, l => l
  | k + 1, l => restL k (cutLine l).2
def lineL (k : Nat) (l : List UInt8) : List UInt8 := (cutLine (restL k l)).1
def cntF : Nat → List UInt8 → Nat
  | 0, _ => 0
  | _ + 1, [] => 0
  | n + 1, b :: l => cntF n (cutLine (b :: l)).2 + 1
/-- How many lines. -/
def cntL (l : List UInt8) : Nat := cntF l.length l
theorem rest_next : ∀ (k : Nat) (l : List UInt8), restL (k + 1) l = (cutLine (restL k l)).2
  | 0, _ => rfl
  | k + 1, l => by rw [restL, rest_next k]; rfl
theorem rest_len : ∀ (k : Nat) (l : List UInt8), (restL k l).length ≤ l.length
  | 0, _ => Nat.le_refl _
  | k + 1, l => by
    rw [restL]
    have h1 := rest_len k (cutLine l).2
    have := congrArg List.length (cut_app l)
    rw [List.length_append] at this
    omega
theorem line_len_le (k : Nat) (l : List UInt8) : (lineL k l).length ≤ l.length := by
  have h1 := rest_len k l
  have := congrArg List.length (cut_app (restL k l))
  rw [List.length_append] at this
  unfold lineL
  omega
theorem cut_nil : cutLine [] = ([], []) := rfl
theorem rest_nil : ∀ k, restL k [] = []
  | 0 => rfl
  | k + 1 => by rw [restL]; exact rest_nil k
theorem cntF_spec : ∀ (n : Nat) (l : List UInt8), l.length ≤ n → (∀ k, k < cntF n l → restL k l ≠ []) ∧ restL (cntF n l) l = [] ∧ cntF n l ≤ l.length
  | 0, l, h => by
    have : l = [] := List.length_eq_zero_iff.1 (by omega)
    subst this
    exact ⟨fun k hk => absurd hk (Nat.not_lt_zero _), rfl, Nat.le_refl _⟩
  | n + 1, [], _ => ⟨fun k hk => absurd hk (Nat.not_lt_zero _), rfl, Nat.le_refl _⟩
  | n + 1, b :: l, h => by
    have hl := cut_less (l := b :: l) (by simp)
    obtain ⟨h1, h2, h3⟩ := cntF_spec n (cutLine (b :: l)).2 (by simp at h hl ⊢; omega)
    refine ⟨fun k hk => ?_, h2, by rw [cntF]; omega⟩
    cases k with
    | zero => simp [restL]
    | succ k =>
      rw [restL]
      exact h1 k (by rw [cntF] at hk; omega)
theorem lns_rest {l : List UInt8} {k : Nat} (h : k < cntL l) : restL k l ≠ [] := (cntF_spec _ l (Nat.le_refl _)).1 k h
theorem lns_end (l : List UInt8) : restL (cntL l) l = [] := (cntF_spec _ l (Nat.le_refl _)).2.1
theorem lns_le (l : List UInt8) : cntL l ≤ l.length := (cntF_spec _ l (Nat.le_refl _)).2.2
theorem lns_stop {l : List UInt8} {k : Nat} (hk : k ≤ cntL l) (h : restL k l = []) : k = cntL l := by
  apply Decidable.byContradiction
  intro hn
  exact lns_rest (by omega) h
end Go.Proofs.YthikfinliiaecaaGreatDoor

namespace Go.Proofs.YthikfinliiaecaaGreatDoor

def splitB (b : UInt8) : List UInt8 → Option (List UInt8 × List UInt8)
  | [] => none
  | x :: l => if x = b then some ([], l) else match splitB b l with
    | none => none
    | some (p, q) => some (x :: p, q)
/-- A text cut at a byte, so many times at most. -/
def cutG (b : UInt8) : Nat → List UInt8 → List (List UInt8)
  | 0, l => [l]
  | n + 1, l => match splitB b l with
    | none => [l]
    | some (p, q) => p :: cutG b n q
theorem split_none {b : UInt8} : ∀ {l : List UInt8}, b ∉ l → splitB b l = none
  | [], _ => rfl
  | x :: l, h => by
    rw [splitB, if_neg (fun e => h (by simp [e])), split_none (fun e => h (by simp [e]))]
theorem split_hit {b : UInt8} : ∀ {p : List UInt8} (q : List UInt8), b ∉ p → splitB b (p ++ b :: q) = some (p, q)
  | [], q, _ => by rw [List.nil_append, splitB, if_pos rfl]
  | x :: p, q, h => by
    rw [List.cons_append, splitB, if_neg (fun e => h (by simp [e])), split_hit q (fun e => h (by simp [e]))]
theorem split_some {b : UInt8} : ∀ {l p q : List UInt8}, splitB b l = some (p, q) → l = p ++ b :: q ∧ b ∉ p
  | [], p, q, h => by cases h
  | x :: l, p, q, h => by
    rw [splitB] at h
    split at h
    · rename_i e
      cases h
      subst e
      exact ⟨rfl, by simp⟩
    · rename_i e
      cases hs : splitB b l with
      | none => rw [hs] at h; cases h
      | some pq =>
        obtain ⟨p', q'⟩ := pq
        rw [hs] at h
        cases h
        obtain ⟨h1, h2⟩ := split_some hs
        exact ⟨by rw [h1]; rfl, by simp only [List.mem_cons, not_or]; exact ⟨fun e' => e e'.symm, h2⟩⟩
theorem cutG_none {b : UInt8} {l : List UInt8} (h : b ∉ l) : ∀ n, cutG b n l = [l]
  | 0 => rfl
  | n + 1 => by rw [cutG, split_none h]
theorem cutG_hit {b : UInt8} {p : List UInt8} (q : List UInt8) (h : b ∉ p) (n : Nat) : cutG b (n + 1) (p ++ b :: q) = p :: cutG b n q := by
  rw [cutG, split_hit q h]
theorem cutG_len (b : UInt8) : ∀ (n : Nat) (l : List UInt8), 1 ≤ (cutG b n l).length ∧ (cutG b n l).length ≤ n + 1 ∧ (cutG b n l).length ≤ l.length + 1
  | 0, l => by simp [cutG]
  | n + 1, l => by
    rw [cutG]
    cases hs : splitB b l with
    | none => simp
    | some pq =>
      obtain ⟨p, q⟩ := pq
      have h1 := cutG_len b n q
      have h2 := congrArg List.length (split_some hs).1
      simp only [List.length_append, List.length_cons] at h2 ⊢
      omega
theorem cutG_each (b : UInt8) : ∀ (n : Nat) (l p : List UInt8), p ∈ cutG b n l → p.length ≤ l.length
  | 0, l, p, h => by
    rw [cutG] at h
    simp at h
    rw [h]
    exact Nat.le_refl _
  | n + 1, l, p, h => by
    rw [cutG] at h
    cases hs : splitB b l with
    | none =>
      rw [hs] at h
      simp at h
      rw [h]
      exact Nat.le_refl _
    | some pq =>
      obtain ⟨p', q⟩ := pq
      rw [hs] at h
      have h2 := congrArg List.length (split_some hs).1
      simp only [List.length_append, List.length_cons] at h2
      rcases List.mem_cons.1 h with rfl | h
      · omega
      · have := cutG_each b n q p h
        omega
end Go.Proofs.YthikfinliiaecaaGreatDoor

namespace Go.Proofs.YthikfinliiaecaaGreatDoor

def figB (c : UInt8) : Bool := decide (48 ≤ c.toNat ∧ c.toNat ≤ 57)
def numF : Int → List UInt8 → Int
  | acc, [] => acc
  | acc, c :: r => numF (acc * 10 + ((c.toNat : Int) - 48)) r
/-- The number that figures are; -1 if they are none, more than six, or have noughts ahead. -/
def numM (d : List UInt8) : Int := if d.all figB = true ∧ d.length ≤ 6 ∧ d ≠ [] ∧ ¬ (1 < d.length ∧ d.head? = some 48) then numF 0 d else -1
theorem numF_app : ∀ (a b : List UInt8) (acc : Int), numF acc (a ++ b) = numF (numF acc a) b
  | [], _, _ => rfl
  | c :: a, b, acc => by rw [List.cons_append, numF, numF, numF_app a b]
theorem fig_nat (k : Nat) (h : k < 10) : (UInt8.ofNat (48 + k)).toNat = 48 + k := by
  rw [UInt8.toNat_ofNat']
  omega
theorem dec_figs (n : Nat) : (Lib.decDigits n).all figB = true ∧ numF 0 (Lib.decDigits n) = (n : Int) ∧ Lib.decDigits n ≠ [] ∧ (1 ≤ n → (Lib.decDigits n).head? ≠ some 48) := by
  induction n using Nat.strongRecOn with
  | _ n ih =>
    rw [Lib.decDigits]
    split
    · rename_i h
      have hf := fig_nat n h
      refine ⟨by simp [figB]; omega, ?_, by simp, fun h1 => ?_⟩
      · show 0 * 10 + (((UInt8.ofNat (48 + n)).toNat : Int) - 48) = _
        rw [hf]; omega
      · simp only [List.head?_cons, ne_eq, Option.some.injEq]
        intro e
        have := congrArg UInt8.toNat e
        rw [hf] at this
        simp at this
        omega
    · rename_i h
      obtain ⟨h1, h2, h3, h4⟩ := ih (n / 10) (by omega)
      have hf := fig_nat (n % 10) (by omega)
      refine ⟨?_, ?_, by simp, fun _ => ?_⟩
      · rw [List.all_append, h1]
        simp [figB]
        omega
      · rw [numF_app, h2]
        show ((n / 10 : Nat) : Int) * 10 + (((UInt8.ofNat (48 + n % 10)).toNat : Int) - 48) = _
        rw [hf]; omega
      · rw [List.head?_append]
        cases hh : (Lib.decDigits (n / 10)).head? with
        | none => exact absurd (List.head?_eq_none_iff.1 hh) h3
        | some c =>
          rw [hh] at h4
          exact h4 (by omega)
theorem dec_from : ∀ (l : List UInt8) (acc : Nat), l.all figB = true → ∃ m : Nat, Lib.decFrom acc l = some m ∧ numF (acc : Int) l = (m : Int)
  | [], acc, _ => ⟨acc, rfl, rfl⟩
  | c :: l, acc, h => by
    rw [List.all_cons, Bool.and_eq_true] at h
    have hc := of_decide_eq_true h.1
    obtain ⟨m, h1, h2⟩ := dec_from l (acc * 10 + (c.toNat - 48)) h.2
    refine ⟨m, ?_, ?_⟩
    · rw [Lib.decFrom, Lib.digitVal, if_pos hc]
      exact h1
    · rw [numF, ← h2]
      congr 1
      omega
/-- A number below a million is read from its figures by the one and the other. -/
theorem num_dec (n : Nat) (h : n ≤ 999999) : numM (Lib.decDigits n) = (n : Int) ∧ Lib.atoiAll (Lib.decDigits n) = .ok (n : Int) ∧ (10 : UInt8) ∉ Lib.decDigits n ∧ (32 : UInt8) ∉ Lib.decDigits n := by
  obtain ⟨h1, h2, h3, h4⟩ := dec_figs n
  have hl := dec_len 5 n (by omega)
  have hfig : ∀ c ∈ Lib.decDigits n, 48 ≤ c.toNat ∧ c.toNat ≤ 57 := fun c hc => of_decide_eq_true (List.all_eq_true.1 h1 c hc)
  refine ⟨?_, ?_, fun hm => by have := hfig _ hm; simp at this, fun hm => by have := hfig _ hm; simp at this⟩
  · unfold numM
    rw [if_pos, h2]
    refine ⟨h1, by omega, h3, fun ⟨ha, hb⟩ => ?_⟩
    refine h4 ?_ hb
    apply Decidable.byContradiction
    intro hn
    have : n = 0 := by omega
    subst this
    simp [Lib.decDigits] at ha
  · rw [Lib.atoiAll_short _ (by omega)]
    obtain ⟨m, h5, h6⟩ := dec_from _ 0 h1
    have hm : m = n := by
      have : numF ((0 : Nat) : Int) (Lib.decDigits n) = (n : Int) := h2
      omega
    subst hm
    cases hd : Lib.decDigits m with
    | nil => exact absurd hd h3
    | cons c r =>
      have hc := hfig c (by rw [hd]; simp)
      have hc5 : (c == 45) = false := by
        rw [beq_eq_false_iff_ne]
        rintro rfl
        simp at hc
      have hc3 : (c == 43) = false := by
        rw [beq_eq_false_iff_ne]
        rintro rfl
        simp at hc
      rw [hd] at h5
      rw [Lib.atoi, hc5, hc3]
      show Lib.NumEnd.ofOption ((Lib.decNat (c :: r)).map _) = _
      have e : Lib.decNat (c :: r) = some m := h5
      rw [e]
      rfl
end Go.Proofs.YthikfinliiaecaaGreatDoor

